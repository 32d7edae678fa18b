/-
  LogCF, LogGF, ToyS: joined into one text.
-/
import Derived.Test.YtajfgmlockjmhaiGreatDoorJa2
import Derived.Test.YtajfgmlockjmhaiGreatDoorJa9
import Derived.Test.YtajfgmlockjmhaiGreatDoorJa5
namespace Go.Proofs.YtajfgmlockjmhaiGreatDoor
open Go.RowKit

def LogFail {G : World → Prop} (C : LogC G) : Prop := ∀ {w0 W p d cb F} (n : Int), G w0 → C.K w0 W p d cb F → plchk p = 0 → LOk p d → Calls Tryz.prog 18 #[.pointer (some ⟨cb, 0, none⟩), .int .i64 n] W fun e w' => (∃ v, e = .returned v) ∧ ∃ F', C.K w0 w' p (failL d n) cb F' ∧ KTouch F W w' ∧ ∀ g ∈ F', g ∈ F ∨ W.heap.size ≤ g
end Go.Proofs.YtajfgmlockjmhaiGreatDoor
namespace Go.Proofs.YtajfgmlockjmhaiGreatDoor
open Go.RowKit

theorem glogD_fail {G : World → Prop} {D : KerC G} {DP : KerPoke D} {DT : KerTime D} {hT : ∀ w, G w → Pow10 w} : LogFail (glogD D DP DT hT) := fun n _ ⟨x, h, hF⟩ _ _ => by
  subst hF
  refine (lgfail_any _ _ _ _ _ _ _ _ _ n _ _ h.blk).mono ?_
  rintro e w' ⟨hv, h1, h2⟩
  exact ⟨hv, _, ⟨x, h.cells h2 h1 (h.tx.same rfl rfl), rfl⟩, h2.mono (fun m hm => by rw [List.mem_singleton] at hm; rw [hm]; exact x.mem0 _), fun g hg => Or.inl hg⟩
end Go.Proofs.YtajfgmlockjmhaiGreatDoor
namespace Go.Proofs.YtajfgmlockjmhaiGreatDoor
open Go.RowKit

/-- The law's own: a room that rests, all alone. -/
def toyS : PD := ⟨[[(10, 0, 0)]], 1, [], []⟩
theorem toyS_ok : plchk toyS = 0 := by decide +kernel
theorem toyS_pln (W : World) (n : Nat) (hn : n = W.heap.size) : Pln ((W.alloc (.cells #[.int .i64 10, .int .i64 0, .int .i64 0] 28)).alloc (.cells #[.slice (some ⟨n, 0, none⟩) 1 1] 29)) (.slice (some ⟨n + 1, 0, none⟩) 1 1) (.slice none 0 0) (.slice none 0 0) toyS := by
  subst hn
  refine ⟨Or.inr ⟨_, 0, 1, rfl, Nat.le_refl _, by simp, fun i c hi => ?_⟩, Or.inl ⟨rfl, _, _, rfl⟩, Or.inl ⟨rfl, _, _, rfl⟩⟩
  match i, hi with
  | 0, hi =>
    simp [toyS] at hi
    subst hi
    refine ⟨.slice (some ⟨W.heap.size, 0, none⟩) 1 1, by simp [go_sem], Or.inr ⟨W.heap.size, 0, 1, rfl, by simp; omega, fun j o ho => ?_⟩⟩
    match j, ho with
    | 0, ho => simp at ho; subst ho; simp [go_sem]
    | j + 1, ho => simp at ho
  | i + 1, hi => simp [toyS] at hi
end Go.Proofs.YtajfgmlockjmhaiGreatDoor
