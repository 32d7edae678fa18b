/-
  Package supply: a frame's ticks as a row; has.
-/
import Derived.Test.YtheenonakbokpahDoorSuM
import Derived.Test.YtheenonakbokpahDoorFBase
import Derived.Test.YtheenonakbokpahDoorEBase
namespace Go.Proofs.YtheenonakbokpahDoor
open Go.RowKit

/-- A row of bools that can be read. -/
def Rw (w : World) (g n : Nat) (P : Nat → Bool) : Prop := g < w.heap.size ∧ ∀ i, i < n → w.cell? ⟨g, i, none⟩ = some (.bool (P i))
theorem Rw.all {w w' : World} {g n : Nat} {P : Nat → Bool} (h : Rw w g n P) (hb : Below w.heap.size w w') : Rw w' g n P :=
  ⟨Nat.lt_of_lt_of_le h.1 hb.size, fun i hi => (hb.cell (p := ⟨g, i, none⟩) h.1).trans (h.2 i hi)⟩
set_option maxRecDepth 100000 in
set_option maxHeartbeats 1000000 in
theorem suhas_any (P : Nat → Bool) (g n t : Nat) (w : World) (hR : Rw w g n P) (hn : 0 < n) (hn2 : n ≤ 40) (hp : ∀ x, P (x + n) = P x) :
    Calls Tryd.prog 31 #[.slice (some ⟨g, 0, none⟩) n n, .int .i64 t] w fun e w' => e = .returned (.bool (P t)) ∧ w' = w := by
  have hq : t % n < n := Nat.mod_lt t hn
  have c0 := hR.2 (t % n) hq
  rw [per_mod hp] at c0
  have hm : (t : Int) % (n : Int) = ((t % n : Nat) : Int) := (Int.natCast_emod t n).symm
  have hni : ((n : Int) == 0) = false := by rw [Bool.eq_false_iff]; simp; omega
  generalize P t = b at c0 ⊢
  generalize t % n = q at c0 hq hm
  have hqi : (q : Int) < (n : Int) := by omega
  clear hR hp
  go_enter Tryd.func31, Tryd.ntmps31
  go_wp2
  go_ret
  exact ⟨rfl, rfl⟩
end Go.Proofs.YtheenonakbokpahDoor
