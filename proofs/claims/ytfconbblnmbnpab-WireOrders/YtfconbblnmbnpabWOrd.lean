/-
  The law WireOrders: its beginning; a wire that is wrong.
-/
import Derived.Test.YtfconbblnmbnpabWFull
namespace Go.Proofs.Ytfconbblnmbnpab
open Go.RowKit

/-- The world behind the box of the wire. -/
abbrev wBox (w : World) (f t k d : Int) : World := w.alloc (.cells #[.int .i64 f, .int .i64 t, .int .i64 k, .int .i64 d] 34)
theorem ord_one : wchk 0 1 2 1 = 0 := by decide
theorem below_touch {B : Nat} {w0 w w2 : World} {base b : Nat} {kd dp ls : Int} {xs : List Int} {v v' : Value} (hw : Below B w0 w) (hB : B ≤ w.heap.size) (hb : B ≤ b) (hL : Ln w base b kd dp xs ls v) (hT : Touch w w2 b v v') : Below B w0 w2 :=
  hw.trans (hT.below hb (hL.own (Nat.le_trans hb (Nat.le_of_lt hL.lt))) hB)
theorem new_ln {w : World} {b : Nat} {kd dp : Int} (h : LnC w b kd dp 0 (.slice none 0 0)) (hb : b < w.heap.size) : Ln w w.heap.size b kd dp [] 0 (.slice none 0 0) := ⟨h, World.ownsRow_nil _ _ _ _, hb, Nat.le_refl _⟩
/-- Its beginning: a queue of one. -/
theorem ord_send1 {w1 : World} {b : Nat} (h : LnC w1 b 2 1 0 (.slice none 0 0)) (hb : b < w1.heap.size) :
    Calls Try.prog 10 #[.pointer (some ⟨b, 0, none⟩), .int .i64 5] w1 fun e w' => ∃ v', e = .returned (.tuple #[.bool true, .nilIface]) ∧ Ln w' w1.heap.size b 2 1 [5] 0 v' ∧ Touch w1 w' b (.slice none 0 0) v' :=
  send_room w1.heap.size b 1 [] 0 (.slice none 0 0) 5 w1 (by decide) (by decide) (new_ln h hb) (by simp) (by simp)
theorem ord_send2 {w2 : World} {base b : Nat} {v : Value} (h : Ln w2 base b 2 1 [5] 0 v) :
    Calls Try.prog 10 #[.pointer (some ⟨b, 0, none⟩), .int .i64 6] w2 fun e w' => e = .returned (.tuple #[.bool false, .nilIface]) ∧ Ln w' base b 2 1 [5] (0 + 1) v ∧ Touch w2 w' b v v :=
  send_full base b 1 [5] 0 v 6 w2 (by decide) (by decide) (by decide) h (by simp)

set_option maxRecDepth 100000 in
set_option maxHeartbeats 4000000 in
theorem ord_bad (f t k d : Int) (sv : Value) (w : World) (h : wchk f t k d ≠ 0) :
    Calls Try.prog 4 #[wV f t k d, sv] w fun ev w' => ev = .returned (.bool true) ∧ Below w.heap.size w w' := by
  have hn1 := wnew_ok 0 1 2 1 (wBox w f t k d) ord_one
  have HN : Hid (∀ W, Calls Try.prog 9 #[wV f t k d] W fun e w' => e = .returned (.tuple #[.pointer none, .iface 53 (.int .i64 (wchk f t k d))]) ∧ Below W.heap.size W w') := fun W => wnew_no f t k d W h
  have HC : Hid (∀ W, Calls Try.prog 12 #[wV f t k d] W fun e w' => e = .returned (.iface 53 (.int .i64 (wchk f t k d))) ∧ Below W.heap.size W w') := fun W => by
    have := wcheck_any f t k d W
    rw [wErr_not h] at this
    exact this
  have hA : Below w.heap.size w (wBox w f t k d) := (Below.refl _ _).alloc (Nat.le_refl _) _
  generalize wchk f t k d = q at HN HC
  clear h
  unfold wV at hn1 HN HC ⊢
  go_enter Try.func4, Try.ntmps4
  go_wp2_with (first
    | (go_at_call 9; refine hn1.mono ?_; rintro e w1 ⟨b, rfl, hlc, hb0, hb1, b1⟩; clear hn1; have B1 : Below (w.heap.size + 1) (wBox w f t k d) w1 := by simpa using b1
       have hbb : w.heap.size + 1 ≤ b := by simpa using hb0
       have hs5 := ord_send1 hlc hb1
       have HL1 : Hid (Ln w1 w1.heap.size b 2 1 [] 0 (.slice none 0 0)) := new_ln hlc hb1
       clear b1 hb0 hlc)
    | (go_at_call 10; refine hs5.mono ?_; rintro e w2 ⟨v2, rfl, hL2, hT2⟩; clear hs5; have B2 := below_touch B1 (Nat.le_of_lt (Nat.lt_of_le_of_lt hbb hb1)) hbb HL1.out hT2
       have hs6 := ord_send2 hL2
       have HL2 : Hid (Ln w2 w1.heap.size b 2 1 [5] 0 v2) := hL2
       clear hL2)
    | (go_at_call 10; refine hs6.mono ?_; rintro e w3 ⟨rfl, hL3, hT3⟩; clear hs6; have B3 := below_touch B2 (Nat.le_trans (Nat.le_of_lt (Nat.lt_of_le_of_lt hbb hb1)) hT2.size) hbb HL2.out hT3
       have ht := take_queue w1.heap.size b 1 (0 + 1) 5 [] v2 w3 hL3
       have HL3 : Hid (Ln w3 w1.heap.size b 2 1 [5] (0 + 1) v2) := hL3
       clear hL3)
    | (go_at_call 11; refine ht.mono ?_; rintro e w4 ⟨v4, rfl, _, hT4⟩; clear ht; have B4 := below_touch B3 (Nat.le_trans (Nat.le_trans (Nat.le_of_lt (Nat.lt_of_le_of_lt hbb hb1)) hT2.size) hT3.size) hbb HL3.out hT4
       have r0 : w4.cell? ⟨w.heap.size, 0, none⟩ = some (.int .i64 f) := (B4.cell (p := ⟨w.heap.size, 0, none⟩) (by simp)).trans (by simp)
       have r1 : w4.cell? ⟨w.heap.size, 1, none⟩ = some (.int .i64 t) := (B4.cell (p := ⟨w.heap.size, 1, none⟩) (by simp)).trans (by simp)
       have r2 : w4.cell? ⟨w.heap.size, 2, none⟩ = some (.int .i64 k) := (B4.cell (p := ⟨w.heap.size, 2, none⟩) (by simp)).trans (by simp)
       have r3 : w4.cell? ⟨w.heap.size, 3, none⟩ = some (.int .i64 d) := (B4.cell (p := ⟨w.heap.size, 3, none⟩) (by simp)).trans (by simp)
       have hn2 := HN.out w4)
    | (go_at_call 9; refine hn2.mono ?_; rintro e w5 ⟨rfl, b5⟩; clear hn2; have hlt4 := wlt r0
       replace r0 := (b5.cell (p := ⟨w.heap.size, 0, none⟩) hlt4).trans r0
       replace r1 := (b5.cell (p := ⟨w.heap.size, 1, none⟩) hlt4).trans r1
       replace r2 := (b5.cell (p := ⟨w.heap.size, 2, none⟩) hlt4).trans r2
       replace r3 := (b5.cell (p := ⟨w.heap.size, 3, none⟩) hlt4).trans r3
       have hc := HC.out w5)
    | (go_at_call 12; refine hc.mono ?_; rintro e w6 ⟨rfl, b6⟩; clear hc))
  go_ret
  have B5 := (hA.trans (B4.mono (Nat.le_succ _)))
  have B6 := B5.trans (b5.mono B5.size)
  exact ⟨rfl, B6.trans (b6.mono B6.size)⟩
end Go.Proofs.Ytfconbblnmbnpab
