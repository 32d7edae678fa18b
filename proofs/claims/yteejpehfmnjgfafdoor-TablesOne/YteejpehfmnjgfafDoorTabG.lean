/-
  Package tables keeps what the laws of tables ask of it.
-/
import Derived.Test.YteejpehfmnjgfafDoorJb7
import Derived.Test.YteejpehfmnjgfafDoorTbTick
namespace Go.Proofs.YteejpehfmnjgfafDoor
open Go.RowKit

/-- Tables of package tables, made since w0, and all their blocks. -/
def KTb (w0 w : World) (p : PD) (ls : List (List S3)) (d : TbD) (cb : Nat) (F : List Nat) : Prop := ∃ x : TW, GT w w0.heap.size p ls d cb x ∧ F = x.F cb ∧ Below w0.heap.size w0 w
def gtab {G : World → Prop} (hG : ∀ w, G w → Forms w) (hall : ∀ w w', G w → Below w.heap.size w w' → G w') : TabC G where
  K := KTb
  all := hall
  since := fun ⟨_, _, _, hb⟩ => hb
  ge := fun ⟨_, h, hF, _⟩ g hg => by
    subst hF
    exact ⟨h.fge g hg, h.flt g hg⟩
  lower := fun h1 ⟨x, h, hF, hb⟩ => ⟨x, h.lower h1.size, hF, h1.trans (hb.mono h1.size)⟩
  frame := fun ⟨x, h, hF, hb⟩ ht hM => by
    subst hF
    exact ⟨x, h.frame ht (fun m hm => (hM m hm).1), rfl, hb.trans (ht.below (fun m hm => (hM m hm).2) hb.size)⟩
  new := fun p vc vs vw lv ls W hg hP hl hz => by
    refine (tbnew_any p vc vs vw lv ls W (hG W hg) hP hl).mono ?_
    rintro e w' ⟨⟨_, cb, x, rfl, h⟩ | ⟨hn, _⟩, hb⟩
    · exact ⟨cb, _, rfl, x, h, rfl, hb⟩
    · exact absurd hz hn
  no := fun p vc vs vw lv ls W hg hP hl hz => by
    refine (tbnew_any p vc vs vw lv ls W (hG W hg) hP hl).mono ?_
    rintro e w' ⟨⟨h0, _⟩ | ⟨_, x, rfl⟩, hb⟩
    · exact absurd h0 hz
    · exact ⟨x, rfl, hb⟩
  ask := fun {w0 W p ls d cb F} i ⟨x, h, hF, hb⟩ _ _ => by
    subst hF
    refine (tbask_any p ls d cb _ x i W h).mono ?_
    rintro e w' ⟨rfl, h1, h2⟩
    exact ⟨rfl, _, ⟨x, h1, rfl, hb.trans (h2.below h.fge hb.size)⟩, h2, fun g hg => Or.inl hg⟩
  tick := fun {w0 W p ls d cb F} hg ⟨x, h, hF, hb⟩ hz hok ht => by
    subst hF
    refine (tbtick_any p ls d cb w0.heap.size x W h hb.size (fun W2 hb2 => (hG w0 hg).all (hb.trans hb2)) hz hok ht).mono ?_
    rintro e w' ⟨rfl, x', h1, h2, h3⟩
    exact ⟨rfl, _, ⟨x', h1, rfl, hb.trans (h2.below h.fge hb.size)⟩, h2, h3⟩
  now := fun {w0 W p ls d cb F} ⟨x, h, _, _⟩ hz hok => by
    obtain ⟨hn0, hn1, _⟩ := fchk_zero (plchk_zero (spanT_right hz hok)).2.2.1
    exact tbnow_any p ls d cb _ x W h hn0 hn1 hok.k.time
end Go.Proofs.YteejpehfmnjgfafDoor
