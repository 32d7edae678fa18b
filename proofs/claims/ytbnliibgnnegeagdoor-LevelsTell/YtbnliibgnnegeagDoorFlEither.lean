/-
  flow.either: either of two rooms reaches these.
-/
import Derived.Test.YtbnliibgnnegeagDoorWayL
namespace Go.Proofs.YtbnliibgnnegeagDoor
open Go.RowKit

/-- Five in a block. -/
def Rw (w : World) (b : Nat) (M : Nat → Bool) : Prop := ∀ k, k < 5 → w.cell? ⟨b, k, none⟩ = some (.bool (M k)) ∧ w.frozen? ⟨b, k, none⟩ = false
/-- Five as a value. -/
def rwV (M : Nat → Bool) : Value := .agg #[.bool (M 0), .bool (M 1), .bool (M 2), .bool (M 3), .bool (M 4)]
def upto (k : Nat) (A B : Nat → Bool) : Nat → Bool := fun x => if x < k then (A x || B x) else A x
theorem upto_here (k : Nat) (A B : Nat → Bool) : upto k A B k = A k := by simp [upto]
theorem upto_zero (A B : Nat → Bool) : upto 0 A B = A := by funext x; simp [upto]
theorem upto_five (A B : Nat → Bool) {x : Nat} (h : x < 5) : upto 5 A B x = (A x || B x) := by simp [upto, h]
theorem Rw.set {w : World} {b : Nat} {M N : Nat → Bool} (h : Rw w b M) {k : Nat} {c : Bool} (hk : k < 5) (hc : N k = c) (hn : ∀ x, x ≠ k → N x = M x) : Rw (w.setCell ⟨b, k, none⟩ (.bool c)) b N := fun x hx => by
  obtain ⟨h1, h2⟩ := h x hx
  refine ⟨?_, (World.frozen?_setCell _ _ _ _).trans h2⟩
  by_cases he : x = k
  · subst he
    rw [hc]
    simp [go_sem, h1]
  · rw [hn x he, World.cell?_setCell_other _ _ _ _ (by intro e; injection e with _ e2; exact he e2.symm)]
    exact h1
theorem Rw.next {w : World} {b : Nat} {A B : Nat → Bool} {k : Nat} (h : Rw w b (upto k A B)) (hk : k < 5) {c : Bool} (hc : c = (A k || B k)) : Rw (w.setCell ⟨b, k, none⟩ (.bool c)) b (upto (k + 1) A B) :=
  h.set hk (by simp [upto, hc]) (fun x hx => by unfold upto; by_cases h1 : x < k; rw [if_pos (by omega), if_pos h1]; rw [if_neg (by omega), if_neg h1])
theorem Rw.apart {w : World} {b c : Nat} {M : Nat → Bool} (h : Rw w b M) (hne : b ≠ c) (i : Nat) (u : Value) : Rw (w.setCell ⟨c, i, none⟩ u) b M := fun x hx =>
  ⟨(World.cell?_of_block (w := w) (a := ⟨b, x, none⟩) (Below.heap_setCell _ _ _ _ hne)).trans (h x hx).1, (World.frozen?_setCell _ _ _ _).trans (h x hx).2⟩
theorem Rw.new (w : World) (M : Nat → Bool) (t : TypeId) : Rw (w.alloc (.cells #[.bool (M 0), .bool (M 1), .bool (M 2), .bool (M 3), .bool (M 4)] t)) w.heap.size M := by
  refine five ?_ ?_ ?_ ?_ ?_ <;> simp
theorem Rw.new_at {w : World} {b : Nat} (hb : b = w.heap.size) (M : Nat → Bool) (t : TypeId) : Rw (w.alloc (.cells #[.bool (M 0), .bool (M 1), .bool (M 2), .bool (M 3), .bool (M 4)] t)) b M := by
  subst hb
  exact Rw.new w M t
theorem Rw.alloc {w : World} {b : Nat} {M : Nat → Bool} (h : Rw w b M) (hb : b < w.heap.size) (o : Obj) : Rw (w.alloc o) b M := fun x hx => by
  have hB : Below w.heap.size w (w.alloc o) := (Below.refl _ _).alloc (Nat.le_refl _) _
  exact ⟨(hB.cell (p := ⟨b, _, none⟩) hb).trans (h x hx).1, (hB.frozen (p := ⟨b, _, none⟩) hb).trans (h x hx).2⟩
set_option maxRecDepth 100000 in
theorem index_row (M : Nat → Bool) : ∀ (k : Nat), k < 5 → ∀ w : World, (Instr.index 38 (.agg #[.bool (M 0), .bool (M 1), .bool (M 2), .bool (M 3), .bool (M 4)]) (.int .i64 (k : Int))).run Tryd.prog w = .ok (.bool (M k)) w := by
  refine five ?_ ?_ ?_ ?_ ?_ <;> exact fun _ => by kernel_rfl

set_option maxRecDepth 100000 in
set_option maxHeartbeats 4000000 in
theorem either_any (A B : Nat → Bool) (w : World) :
    Calls Tryd.prog 33 #[rwV A, rwV B] w fun e w' => e = .returned (rwV fun x => A x || B x) ∧ Below w.heap.size w w' := by
  unfold rwV
  go_enter Tryd.func33, Tryd.ntmps33
  go_wp2
  go_loopw [8] (fun i wr => ∃ k : Nat, k ≤ 5 ∧ i = .int .i64 k ∧ Rw wr w.heap.size (upto k A B) ∧ Rw wr (w.heap.size + 2) (fun _ => false) ∧ Below w.heap.size w wr ∧ w.heap.size + 3 ≤ wr.heap.size) (fun i _ => 5 - (intOf i).toNat)
  case atStart =>
    refine ⟨0, Nat.zero_le _, rfl, ?_, ?_, (((Below.refl _ _).alloc (Nat.le_refl _) _).alloc (by simp) _).alloc (by simp; omega) _, by simp⟩
    · rw [upto_zero]
      exact ((Rw.new w A 38).alloc (by simp) _).alloc (by simp; omega) _
    · exact Rw.new_at (by simp) (fun _ => false) 38
  case round =>
    obtain ⟨k, hk, rfl, hM, hZ, hB, hsz⟩ := hrel
    have HM : Hid (Rw wr w.heap.size (upto k A B)) := hM
    have HZ : Hid (Rw wr (w.heap.size + 2) (fun _ => false)) := hZ
    clear hM hZ
    by_cases hk5 : k < 5
    · have hki : (k : Int) < 5 := by omega
      have hix := index_row B k hk5
      obtain ⟨c, f⟩ := HM.out k hk5
      rw [upto_here] at c
      have hA : A k = true ∨ A k = false := by cases A k <;> simp
      rcases hA with hA | hA
      · rw [hA] at c
        have HC : Hid (true = (A k || B k)) := by show _ = _; rw [hA]; rfl
        clear hA
        go_wp2
        go_roundw
        case rel => exact ⟨k + 1, by omega, by go_num, HM.out.next hk5 HC.out, HZ.out.apart (by omega) _ _, hB.setCell (p := ⟨w.heap.size, _, none⟩) (Nat.le_refl _) _, by simpa using hsz⟩
        case measure => simp [intOf]; omega
      · rw [hA] at c
        have HC : Hid (B k = (A k || B k)) := by show _ = _; rw [hA]; rfl
        clear hA
        go_wp2
        go_roundw
        case rel => exact ⟨k + 1, by omega, by go_num, HM.out.next hk5 HC.out, HZ.out.apart (by omega) _ _, hB.setCell (p := ⟨w.heap.size, _, none⟩) (Nat.le_refl _) _, by simpa using hsz⟩
        case measure => simp [intOf]; omega
    · obtain rfl : k = 5 := by omega
      obtain ⟨c0, _⟩ := HM.out 0 (by omega)
      obtain ⟨c1, _⟩ := HM.out 1 (by omega)
      obtain ⟨c2, _⟩ := HM.out 2 (by omega)
      obtain ⟨c3, _⟩ := HM.out 3 (by omega)
      obtain ⟨c4, _⟩ := HM.out 4 (by omega)
      rw [upto_five _ _ (by omega)] at c0 c1 c2 c3 c4
      obtain ⟨d0, f0⟩ := HZ.out 0 (by omega)
      obtain ⟨d1, f1⟩ := HZ.out 1 (by omega)
      obtain ⟨d2, f2⟩ := HZ.out 2 (by omega)
      obtain ⟨d3, f3⟩ := HZ.out 3 (by omega)
      obtain ⟨d4, f4⟩ := HZ.out 4 (by omega)
      clear HM HZ
      go_wp2
      refine bodyPost_ret (v := .agg #[.bool (A 0 || B 0), .bool (A 1 || B 1), .bool (A 2 || B 2), .bool (A 3 || B 3), .bool (A 4 || B 4)]) ?_ rfl ⟨rfl, ?_⟩
      · simp [results, Tryd.results33, go_sem, d0, d1, d2, d3, d4]
      exact ((((hB.setCell (p := ⟨w.heap.size + 2, _, none⟩) (by simp) _).setCell (p := ⟨w.heap.size + 2, _, none⟩) (by simp) _).setCell (p := ⟨w.heap.size + 2, _, none⟩) (by simp) _).setCell (p := ⟨w.heap.size + 2, _, none⟩) (by simp) _).setCell (p := ⟨w.heap.size + 2, _, none⟩) (by simp) _
end Go.Proofs.YtbnliibgnnegeagDoor
