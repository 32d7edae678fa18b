/-
  namesMore: does a span, or a wire, name a room that has no code; checkRoom: what is wrong with the code of a room.
-/
import Derived.Test.YteejpehfmnjgfafDoorPlAny
import Derived.Test.YteejpehfmnjgfafDoorJb2
import Derived.Test.YteejpehfmnjgfafDoorWiresTop
import Derived.BigQuiet
namespace Go.Proofs.YteejpehfmnjgfafDoor
open Go.RowKit

set_option maxRecDepth 100000 in
set_option maxHeartbeats 1000000 in
theorem more1_any (s : S3) (rb n : Nat) (w : World) (h : w.cell? ⟨rb, 0, none⟩ = some (.int .i64 n)) :
    Calls Tryd.prog 77 #[.agg #[.int .i64 s.1, .int .i64 s.2.1, .int .i64 s.2.2], .pointer (some ⟨rb, 0, none⟩)] w fun e w' => e = .returned (.bool (spanOut n s)) ∧ Below w.heap.size w w' := by
  have hlt := lt_of_cell h
  have hne : rb ≠ w.heap.size := by omega
  obtain ⟨a, b, r⟩ := s
  simp only
  go_enter Tryd.func77, Tryd.ntmps77
  go_wp2
  go_ret
  exact ⟨rfl, (Below.refl _ _).alloc (Nat.le_refl _) _⟩
set_option maxRecDepth 100000 in
set_option maxHeartbeats 1000000 in
theorem more2_any (s : W4) (rb n : Nat) (w : World) (h : w.cell? ⟨rb, 0, none⟩ = some (.int .i64 n)) :
    Calls Tryd.prog 79 #[.agg #[.int .i64 s.1, .int .i64 s.2.1, .int .i64 s.2.2.1, .int .i64 s.2.2.2], .pointer (some ⟨rb, 0, none⟩)] w fun e w' => e = .returned (.bool (wireOut n s)) ∧ Below w.heap.size w w' := by
  have hlt := lt_of_cell h
  have hne : rb ≠ w.heap.size := by omega
  obtain ⟨a, b, r, d⟩ := s
  simp only
  by_cases h1 : (n : Int) ≤ a
  · have HF : Hid (wireOut n (a, b, r, d) = true) := by show _ = _; simp [wireOut, h1]
    go_enter Tryd.func79, Tryd.ntmps79
    go_wp2
    go_ret
    exact ⟨ret_bool HF.out.symm, (Below.refl _ _).alloc (Nat.le_refl _) _⟩
  · have h1' : decide ((n : Int) ≤ a) = false := decide_eq_false h1
    have HF : Hid (wireOut n (a, b, r, d) = decide ((n : Int) ≤ b)) := by show _ = _; simp [wireOut, h1']
    go_enter Tryd.func79, Tryd.ntmps79
    go_wp2
    go_ret
    exact ⟨ret_bool HF.out.symm, (Below.refl _ _).alloc (Nat.le_refl _) _⟩
set_option maxRecDepth 100000 in
set_option maxHeartbeats 2000000 in
theorem namesmore_any (p : PD) (vc vs vw : Value) (w : World) (hp : Pln w vc vs vw p) (h1 : p.spans.length ≤ 12) (h2 : p.wires.length ≤ 12) :
    Calls Tryd.prog 54 #[plV vc p.ticks vs vw] w fun e w' => e = .returned (.bool (p.spans.any (spanOut p.code.length) || p.wires.any (wireOut p.code.length))) ∧ Below w.heap.size w w' := by
  obtain ⟨ca, cc, rfl⟩ := hp.code.form
  obtain ⟨sa, sc, rfl⟩ := hp.spans.form
  obtain ⟨wa, wc, rfl⟩ := hp.wires.form
  unfold plV
  have hx0 := Bx.first w (.slice ca p.code.length cc) p.ticks (.slice sa p.spans.length sc) (.slice wa p.wires.length wc)
  obtain ⟨W0, hW0⟩ : ∃ W0, (w.alloc (.cells #[.slice ca p.code.length cc, .int .i64 p.ticks, .slice sa p.spans.length sc, .slice wa p.wires.length wc] 26)).alloc (.cells #[.int .i64 p.code.length] 3) = W0 := ⟨_, rfl⟩
  have hx1 : Bx w W0 (.slice ca p.code.length cc) p.ticks (.slice sa p.spans.length sc) (.slice wa p.wires.length wc) := by rw [← hW0]; exact hx0.step ((Below.refl _ _).alloc (Nat.le_refl _) _)
  have hr : W0.cell? ⟨w.heap.size + 1, 0, none⟩ = some (.int .i64 p.code.length) := by rw [← hW0]; simp
  have hrl := lt_of_cell hr
  have q1 := con_more1 p.spans (spanOut p.code.length) _ (w.heap.size + 1) W0 h1 (hp.spans.all hx1.below) (fun W hb o _ => more1_any o _ _ W ((hb.cell (p := ⟨w.heap.size + 1, 0, none⟩) hrl).trans hr))
  have HQ : Hid (∀ W1, Below W0.heap.size W0 W1 → Calls Tryd.prog 78 #[.slice wa p.wires.length wc, .func (.func 79) #[] #[.pointer (some ⟨w.heap.size + 1, 0, none⟩)]] W1 fun e w' => e = .returned (.bool (p.wires.any (wireOut p.code.length))) ∧ Below W1.heap.size W1 w') := fun W1 hb1 => con_more2 p.wires (wireOut p.code.length) _ (w.heap.size + 1) W1 h2 ((hp.wires.all hx1.below).all hb1) (fun W hb o _ => more2_any o _ _ W ((hb.cell (p := ⟨w.heap.size + 1, 0, none⟩) (Nat.lt_of_lt_of_le hrl hb1.size)).trans ((hb1.cell (p := ⟨w.heap.size + 1, 0, none⟩) hrl).trans hr)))
  have k3 : ∀ W1, Below W0.heap.size W0 W1 → W1.cell? ⟨w.heap.size, 3, none⟩ = some (.slice wa p.wires.length wc) := fun W1 hb => (hx1.step hb).c3
  have K3 : Hid (∀ W1, Below W0.heap.size W0 W1 → W1.cell? ⟨w.heap.size, 3, none⟩ = some (.slice wa p.wires.length wc)) := k3
  clear hp k3 hr
  subst hW0
  cases ha : p.spans.any (spanOut p.code.length) with
  | true =>
    rw [ha] at q1
    go_enter Tryd.func54, Tryd.ntmps54
    go_wp2_with (go_at_call 76; refine q1.mono ?_; rintro e w1 ⟨rfl, b1⟩)
    go_ret
    exact ⟨rfl, hx1.below.trans (b1.mono hx1.below.size)⟩
  | false =>
    rw [ha] at q1
    go_enter Tryd.func54, Tryd.ntmps54
    go_wp2_with (first
      | (go_at_call 76; refine q1.mono ?_; rintro e w1 ⟨rfl, b1⟩; have c3 := K3.out w1 b1; have q2 := HQ.out w1 b1)
      | (go_at_call 78; refine q2.mono ?_; rintro e w2 ⟨rfl, b2⟩))
    go_ret
    have hb1 := hx1.below.trans (b1.mono hx1.below.size)
    exact ⟨rfl, hb1.trans (b2.mono hb1.size)⟩
end Go.Proofs.YteejpehfmnjgfafDoor
