/-
  CarG, CarGP: joined into one text.
-/
import Derived.Test.YtfconbblnmbnpafGreatDoorCrNew
import Derived.Test.YtfconbblnmbnpafGreatDoorJa12
import Derived.Test.YtfconbblnmbnpafGreatDoorJa10
import Derived.Test.YtfconbblnmbnpafGreatDoorJa8
namespace Go.Proofs.YtfconbblnmbnpafGreatDoor
open Go.RowKit

/-- A care of package care, made since w0, and all its blocks. -/
def KC (w0 w : World) (p : PD) (what : List Int) (most : Int) (d : CD) (cb : Nat) (F : List Nat) : Prop := ∃ x : CW, GC w w0.heap.size p what most d cb x ∧ F = x.F cb ∧ Below w0.heap.size w0 w
def gcar {G : World → Prop} (hG : ∀ w, G w → Forms w) (hall : ∀ w w', G w → Below w.heap.size w w' → G w') : CarC G where
  K := KC
  all := hall
  since := fun ⟨_, _, _, hb⟩ => hb
  ge := fun ⟨_, h, hF, _⟩ g hg => by
    subst hF
    exact ⟨h.fge g hg, h.flt g hg⟩
  lower := fun h1 ⟨x, h, hF, hb⟩ => ⟨x, h.lower h1.size, hF, h1.trans (hb.mono h1.size)⟩
  frame := fun ⟨x, h, hF, hb⟩ ht hM => by
    subst hF
    exact ⟨x, h.frame ht (fun m hm => (hM m hm).1), rfl, hb.trans (ht.below (fun m hm => (hM m hm).2) hb.size)⟩
  new := fun p vc vs vw wv what most W hg hP hwv hc => by
    refine (crnew_ok p vc vs vw wv what most W (hG W hg) hP hwv hc).mono ?_
    rintro e w' ⟨cb, x, rfl, h, hb⟩
    exact ⟨cb, _, rfl, x, h, rfl, hb⟩
  no := fun p vc vs vw wv what most W hg hP hwv hc => by
    by_cases h1 : plchk p = 0
    · by_cases h2 : what.length = p.code.length
      · have hno : ¬ (what.any ruleOut = false ∧ 0 ≤ most ∧ most ≤ 100) := fun ⟨a1, a2, a3⟩ => hc (by
          unfold carE
          rw [if_pos h1, if_pos h2, if_neg (by rw [a1]; decide), if_neg (by omega)])
        have he : carE p what most = 1 := by
          unfold carE
          rw [if_pos h1, if_pos h2]
          by_cases h3 : what.any ruleOut = true
          · rw [if_pos h3]
          · rw [if_neg h3]
            by_cases h4 : most < 0 ∨ 100 < most
            · rw [if_pos h4]
            · exact absurd ⟨by simpa using h3, by omega, by omega⟩ hno
        rw [he]
        exact crnew_out p vc vs vw wv what most W (hG W hg) hP hwv h1 h2 hno
      · have he : carE p what most = 3 := by
          unfold carE
          rw [if_pos h1, if_neg h2]
        rw [he]
        exact crnew_few p vc vs vw wv what most W (hG W hg) hP hwv h1 h2
    · have he : carE p what most = plchk p := by
        unfold carE
        rw [if_neg h1]
      rw [he]
      exact crnew_no p vc vs vw wv most W (hG W hg) hP h1
  tick := fun {w0 W p what most d cb F} hg ⟨x, h, hF, hb⟩ hc hok ht => by
    subst hF
    refine (crtick_any p what most d cb w0.heap.size x W ((hG w0 hg).all hb) h hb.size (fun W2 hb2 => (hG w0 hg).all (hb.trans hb2)) hc hok ht).mono ?_
    rintro e w' ⟨rfl, x', h1, h2, h3⟩
    exact ⟨rfl, _, ⟨x', h1, rfl, hb.trans (h2.below h.fge hb.size)⟩, h2, h3⟩
  state := fun {w0 W p what most d cb F} r ⟨x, h, _, _⟩ _ _ => crstate_any p what most d cb _ x r W h
  times := fun {w0 W p what most d cb F} r ⟨x, h, _, _⟩ hok _ => crtimes_any p what most d cb _ x r W h (by rw [hok.tl, hok.k.rl])
end Go.Proofs.YtfconbblnmbnpafGreatDoor
namespace Go.Proofs.YtfconbblnmbnpafGreatDoor
open Go.RowKit

set_option maxRecDepth 100000 in
set_option maxHeartbeats 4000000 in
theorem crpoke_any (p : PD) (what : List Int) (most : Int) (d : CD) (cb base : Nat) (x : CW) (r c n : Int) (w : World) (h : GC w base p what most d cb x) :
    Calls Tryz.prog 8 #[.pointer (some ⟨cb, 0, none⟩), .int .i64 r, .int .i64 c, .int .i64 n] w fun e w' => e = .returned (wErr (pokeN d.k r c n)) ∧ GC w' base p what most ⟨pokeK d.k r c n, d.ts⟩ cb x ∧ KTouch (x.F cb) w w' := by
  have HP : Hid (Calls Tryz.prog 22 #[.pointer (some ⟨x.kb, 0, none⟩), .int .i64 r, .int .i64 c, .int .i64 n] w fun e w' => e = .returned (wErr (pokeN d.k r c n)) ∧ GK w' base p (pokeK d.k r c n) x.kb x.a ∧ KTouch (x.a.F x.kb) w w') := gpoke_any p d.k x.kb base x.a r c n w h.k
  have c0 := h.c0
  have H : Hid (GC w base p what most d cb x) := h
  clear h
  generalize wErr (pokeN d.k r c n) = ev at HP ⊢
  go_enter Tryz.func8, Tryz.ntmps8
  go_wp2_with (go_at_call 22; refine HP.out.mono ?_; rintro e w1 ⟨rfl, hg, tk⟩)
  go_ret
  exact ⟨rfl, H.out.kern tk hg (fun g hg => Or.inl hg), tk.mono (fun m hm => by simp [CW.F, hm])⟩
theorem gcar_poke {G : World → Prop} (hG : ∀ w, G w → Forms w) (hall : ∀ w w', G w → Below w.heap.size w w' → G w') : CarPoke (gcar hG hall) := fun {w0 W p what most d cb F} r c n ⟨x, h, hF, hb⟩ _ _ => by
  subst hF
  refine (crpoke_any p what most d cb _ x r c n W h).mono ?_
  rintro e w' ⟨rfl, h1, h2⟩
  exact ⟨rfl, _, ⟨x, h1, rfl, hb.trans (h2.below h.fge hb.size)⟩, h2, fun g hg => Or.inl hg⟩
end Go.Proofs.YtfconbblnmbnpafGreatDoor
