/-
  The law RoomTells: the walk, where what is there is wrong; where all is right.
-/
import Derived.Test.YthbcbdedmillaaaDoorRTells
namespace Go.Proofs.YthbcbdedmillaaaDoor
open Go.RowKit

set_option maxRecDepth 100000 in
set_option maxHeartbeats 8000000 in
theorem rtells_got0 (l : List O3) (ao : Option Addr) (cap : Nat) (s : St) (got ci : Int) (h0 : got < 0) (w : World) (hf : Forms w) (hg : ErrT w) (hl : Ops w (.slice ao l.length cap) l)
    (hR : ∀ W, Ops W (.slice ao l.length cap) l → Calls Tryd.prog 12 #[.slice ao l.length cap] W fun ev w' => ev = .returned (.tuple #[.int .i64 ci, .int .i64 0]) ∧ Below W.heap.size W w')
    (hT : ∀ W, Calls Tryd.prog 13 #[.agg #[.int .i64 s.p, .int .i64 (s.c 0), .int .i64 (s.c 1), .int .i64 (s.c 2), .int .i64 (s.c 3), .int .i64 (s.c 4), .int .i64 (s.c 5), .bool s.f], .int .i64 l.length] W fun ev w' => ev = .returned (.bool true) ∧ Below W.heap.size W w')
    (hC : ∀ W, Forms W → Ops W (.slice ao l.length cap) l → Calls Tryd.prog 15 #[.slice ao l.length cap, .agg #[.int .i64 s.p, .int .i64 (s.c 0), .int .i64 (s.c 1), .int .i64 (s.c 2), .int .i64 (s.c 3), .int .i64 (s.c 4), .int .i64 (s.c 5), .bool s.f]] W fun ev w' => ev = .returned (.nilIface) ∧ Below W.heap.size W w')
    (hS : ∀ W, Forms W → Ops W (.slice ao l.length cap) l → Calls Tryd.prog 17 #[.slice ao l.length cap, .agg #[.int .i64 s.p, .int .i64 (s.c 0), .int .i64 (s.c 1), .int .i64 (s.c 2), .int .i64 (s.c 3), .int .i64 (s.c 4), .int .i64 (s.c 5), .bool s.f], .int .i64 got, .bool true] W fun ev w' => ev = .returned (.tuple #[.agg #[.int .i64 0, .int .i64 0, .int .i64 0, .int .i64 0, .int .i64 0, .int .i64 0, .int .i64 0, .bool false], .int .i64 0, .iface 58 (.int .i64 1)]) ∧ Below W.heap.size W w') :
    Calls Tryd.prog 5 #[.slice ao l.length cap, stV s, .int .i64 got, .bool true] w fun ev w' => ev = .returned (.bool true) ∧ Below w.heap.size w w' := by
  have HF : Hid (Forms w) := hf
  have HG : Hid (ErrT w) := hg
  have HL : Hid (Ops w (.slice ao l.length cap) l) := hl
  have hEa : Hid (∀ W, ErrT W → Calls Tryd.prog 14 #[.nilIface, .int .i64 0] W fun r w' => r = .returned (.bool true) ∧ Below W.heap.size W w') := fun W h => by
    have h1 := error_any 0 0 W h
    rw [show errV 0 = .nilIface from rfl] at h1
    simpa using h1
  have hEb : Hid (∀ W, ErrT W → Calls Tryd.prog 14 #[.iface 58 (.int .i64 1), .int .i64 1] W fun r w' => r = .returned (.bool true) ∧ Below W.heap.size W w') := fun W h => by
    have h1 := error_any 1 1 W h
    rw [show errV 1 = .iface 58 (.int .i64 1) from rfl] at h1
    simpa using h1
  have hnew := fun W => new_any W
  have hgd := guardSt
  have heq := eql_st
  clear hf hg hl
  unfold stV at hnew ⊢
  go_enter Tryd.func5, Tryd.ntmps5
  go_wp2_with (first
    | (go_at_call 12; refine (hR _ (HL.out.all ((Below.refl _ _).alloc (Nat.le_refl _) _))).mono ?_; rintro ev w1 ⟨rfl, b1⟩; clear hR; have bw1 : Below w.heap.size w w1 := ((Below.refl _ w).alloc (Nat.le_refl _) _).trans (b1.mono (by simp)); have hs1 : SBox w1 w.heap.size s := (SBox.new w s _).keep b1 (by simp); have hlt1 : w.heap.size < w1.heap.size := (by have h := b1.size; simp at h; omega); clear b1; have SB1 : Hid (SBox w1 w.heap.size s) := hs1; obtain ⟨y0, y1, y2, y3, y4, y5, y6, y7⟩ := hs1)
    | (go_at_call 13; refine (hT w1).mono ?_; rintro ev w2 ⟨rfl, b2⟩; clear hT y0 y1 y2 y3 y4 y5 y6 y7; have bw2 := bw1.trans (b2.mono bw1.size); have hs2 := SB1.out.keep b2 hlt1; have hlt2 : w.heap.size < w2.heap.size := Nat.lt_of_lt_of_le hlt1 b2.size; clear b2; have SB2 : Hid (SBox w2 w.heap.size s) := hs2; obtain ⟨y0, y1, y2, y3, y4, y5, y6, y7⟩ := hs2)
    | (go_at_call 15; refine (hC _ (HF.out.all bw2) (HL.out.all bw2)).mono ?_; rintro ev w3 ⟨rfl, b3⟩; clear hC y0 y1 y2 y3 y4 y5 y6 y7; have bw3 := bw2.trans (b3.mono bw2.size); have hs3 := SB2.out.keep b3 hlt2; have hlt3 : w.heap.size < w3.heap.size := Nat.lt_of_lt_of_le hlt2 b3.size; clear b3; have SB3 : Hid (SBox w3 w.heap.size s) := hs3; obtain ⟨y0, y1, y2, y3, y4, y5, y6, y7⟩ := hs3)
    | (go_at_call 14; refine (hEa.out _ (HG.out.all bw3)).mono ?_; rintro ev w4 ⟨rfl, b4⟩; clear hEa y0 y1 y2 y3 y4 y5 y6 y7; have bw4 := bw3.trans (b4.mono bw3.size); have hs4 := SB3.out.keep b4 hlt3; have hlt4 : w.heap.size < w4.heap.size := Nat.lt_of_lt_of_le hlt3 b4.size; clear b4; have SB4 : Hid (SBox w4 w.heap.size s) := hs4; obtain ⟨y0, y1, y2, y3, y4, y5, y6, y7⟩ := hs4)
    | (go_at_call 17; refine (hS _ ((HF.out.all bw4).alloc _) ((HL.out.all bw4).all ((Below.refl _ _).alloc (Nat.le_refl _) _))).mono ?_; rintro ev v4 ⟨rfl, b4⟩; clear hS y0 y1 y2 y3 y4 y5 y6 y7; have cw4 : Below w.heap.size w v4 := (bw4.alloc (by have := bw4.size; omega) _).trans (b4.mono (by have := bw4.size; simp; omega)); have hz4 : SBox v4 w4.heap.size ⟨0, fun _ => 0, false⟩ := (SBox.new w4 ⟨0, fun _ => 0, false⟩ _).keep b4 (by simp); have hlv4 : w4.heap.size < v4.heap.size := (by have h := b4.size; simp at h; omega); have hz5 : Hid (SBox (v4.alloc (.cells #[.int .i64 0, .int .i64 0, .int .i64 0, .int .i64 0, .int .i64 0, .int .i64 0, .int .i64 0, .bool false] 40)) w4.heap.size ⟨0, fun _ => 0, false⟩) := hz4.keep (B := v4.heap.size) ((Below.refl _ _).alloc (Nat.le_refl _) _) hlv4; have cw5 : Below w.heap.size w (v4.alloc (.cells #[.int .i64 0, .int .i64 0, .int .i64 0, .int .i64 0, .int .i64 0, .int .i64 0, .int .i64 0, .bool false] 40)) := cw4.alloc (by have := cw4.size; omega) _; have hE2 := hEb.out _ (HG.out.all cw5); clear hEb; obtain ⟨z0, z1, z2, z3, z4, z5, z6, z7⟩ := hz4)
    | (go_at_call 14; refine hE2.mono ?_; rintro ev v5 ⟨rfl, b5⟩; clear hE2 z0 z1 z2 z3 z4 z5 z6 z7; have cw6 := cw5.trans (b5.mono cw5.size); have hz6 := hz5.out.keep b5 (by simp; omega); have hx6 := (SBox.new v4 ⟨0, fun _ => 0, false⟩ _).keep b5 (by simp); obtain ⟨z0, z1, z2, z3, z4, z5, z6, z7⟩ := hz6; obtain ⟨x0, x1, x2, x3, x4, x5, x6, x7⟩ := hx6)
    | (go_at_call 18; refine (hnew _).mono ?_; rintro ev v6 ⟨rfl, b6⟩; clear hnew))
  go_ret
  exact ⟨rfl, cw6.trans (b6.mono cw6.size)⟩
set_option maxRecDepth 100000 in
set_option maxHeartbeats 8000000 in
theorem rtells_got1 (l : List O3) (ao : Option Addr) (cap : Nat) (s : St) (got ci : Int) (h1 : 999 < got) (w : World) (hf : Forms w) (hg : ErrT w) (hl : Ops w (.slice ao l.length cap) l)
    (hR : ∀ W, Ops W (.slice ao l.length cap) l → Calls Tryd.prog 12 #[.slice ao l.length cap] W fun ev w' => ev = .returned (.tuple #[.int .i64 ci, .int .i64 0]) ∧ Below W.heap.size W w')
    (hT : ∀ W, Calls Tryd.prog 13 #[.agg #[.int .i64 s.p, .int .i64 (s.c 0), .int .i64 (s.c 1), .int .i64 (s.c 2), .int .i64 (s.c 3), .int .i64 (s.c 4), .int .i64 (s.c 5), .bool s.f], .int .i64 l.length] W fun ev w' => ev = .returned (.bool true) ∧ Below W.heap.size W w')
    (hC : ∀ W, Forms W → Ops W (.slice ao l.length cap) l → Calls Tryd.prog 15 #[.slice ao l.length cap, .agg #[.int .i64 s.p, .int .i64 (s.c 0), .int .i64 (s.c 1), .int .i64 (s.c 2), .int .i64 (s.c 3), .int .i64 (s.c 4), .int .i64 (s.c 5), .bool s.f]] W fun ev w' => ev = .returned (.nilIface) ∧ Below W.heap.size W w')
    (hS : ∀ W, Forms W → Ops W (.slice ao l.length cap) l → Calls Tryd.prog 17 #[.slice ao l.length cap, .agg #[.int .i64 s.p, .int .i64 (s.c 0), .int .i64 (s.c 1), .int .i64 (s.c 2), .int .i64 (s.c 3), .int .i64 (s.c 4), .int .i64 (s.c 5), .bool s.f], .int .i64 got, .bool true] W fun ev w' => ev = .returned (.tuple #[.agg #[.int .i64 0, .int .i64 0, .int .i64 0, .int .i64 0, .int .i64 0, .int .i64 0, .int .i64 0, .bool false], .int .i64 0, .iface 58 (.int .i64 1)]) ∧ Below W.heap.size W w') :
    Calls Tryd.prog 5 #[.slice ao l.length cap, stV s, .int .i64 got, .bool true] w fun ev w' => ev = .returned (.bool true) ∧ Below w.heap.size w w' := by
  have HF : Hid (Forms w) := hf
  have HG : Hid (ErrT w) := hg
  have HL : Hid (Ops w (.slice ao l.length cap) l) := hl
  have h0 : decide (got < 0) = false := by simp; omega
  have hEa : Hid (∀ W, ErrT W → Calls Tryd.prog 14 #[.nilIface, .int .i64 0] W fun r w' => r = .returned (.bool true) ∧ Below W.heap.size W w') := fun W h => by
    have h1 := error_any 0 0 W h
    rw [show errV 0 = .nilIface from rfl] at h1
    simpa using h1
  have hEb : Hid (∀ W, ErrT W → Calls Tryd.prog 14 #[.iface 58 (.int .i64 1), .int .i64 1] W fun r w' => r = .returned (.bool true) ∧ Below W.heap.size W w') := fun W h => by
    have h1 := error_any 1 1 W h
    rw [show errV 1 = .iface 58 (.int .i64 1) from rfl] at h1
    simpa using h1
  have hnew := fun W => new_any W
  have hgd := guardSt
  have heq := eql_st
  clear hf hg hl
  unfold stV at hnew ⊢
  go_enter Tryd.func5, Tryd.ntmps5
  go_wp2_with (first
    | (go_at_call 12; refine (hR _ (HL.out.all ((Below.refl _ _).alloc (Nat.le_refl _) _))).mono ?_; rintro ev w1 ⟨rfl, b1⟩; clear hR; have bw1 : Below w.heap.size w w1 := ((Below.refl _ w).alloc (Nat.le_refl _) _).trans (b1.mono (by simp)); have hs1 : SBox w1 w.heap.size s := (SBox.new w s _).keep b1 (by simp); have hlt1 : w.heap.size < w1.heap.size := (by have h := b1.size; simp at h; omega); clear b1; have SB1 : Hid (SBox w1 w.heap.size s) := hs1; obtain ⟨y0, y1, y2, y3, y4, y5, y6, y7⟩ := hs1)
    | (go_at_call 13; refine (hT w1).mono ?_; rintro ev w2 ⟨rfl, b2⟩; clear hT y0 y1 y2 y3 y4 y5 y6 y7; have bw2 := bw1.trans (b2.mono bw1.size); have hs2 := SB1.out.keep b2 hlt1; have hlt2 : w.heap.size < w2.heap.size := Nat.lt_of_lt_of_le hlt1 b2.size; clear b2; have SB2 : Hid (SBox w2 w.heap.size s) := hs2; obtain ⟨y0, y1, y2, y3, y4, y5, y6, y7⟩ := hs2)
    | (go_at_call 15; refine (hC _ (HF.out.all bw2) (HL.out.all bw2)).mono ?_; rintro ev w3 ⟨rfl, b3⟩; clear hC y0 y1 y2 y3 y4 y5 y6 y7; have bw3 := bw2.trans (b3.mono bw2.size); have hs3 := SB2.out.keep b3 hlt2; have hlt3 : w.heap.size < w3.heap.size := Nat.lt_of_lt_of_le hlt2 b3.size; clear b3; have SB3 : Hid (SBox w3 w.heap.size s) := hs3; obtain ⟨y0, y1, y2, y3, y4, y5, y6, y7⟩ := hs3)
    | (go_at_call 14; refine (hEa.out _ (HG.out.all bw3)).mono ?_; rintro ev w4 ⟨rfl, b4⟩; clear hEa y0 y1 y2 y3 y4 y5 y6 y7; have bw4 := bw3.trans (b4.mono bw3.size); have hs4 := SB3.out.keep b4 hlt3; have hlt4 : w.heap.size < w4.heap.size := Nat.lt_of_lt_of_le hlt3 b4.size; clear b4; have SB4 : Hid (SBox w4 w.heap.size s) := hs4; obtain ⟨y0, y1, y2, y3, y4, y5, y6, y7⟩ := hs4)
    | (go_at_call 17; refine (hS _ ((HF.out.all bw4).alloc _) ((HL.out.all bw4).all ((Below.refl _ _).alloc (Nat.le_refl _) _))).mono ?_; rintro ev v4 ⟨rfl, b4⟩; clear hS y0 y1 y2 y3 y4 y5 y6 y7; have cw4 : Below w.heap.size w v4 := (bw4.alloc (by have := bw4.size; omega) _).trans (b4.mono (by have := bw4.size; simp; omega)); have hz4 : SBox v4 w4.heap.size ⟨0, fun _ => 0, false⟩ := (SBox.new w4 ⟨0, fun _ => 0, false⟩ _).keep b4 (by simp); have hlv4 : w4.heap.size < v4.heap.size := (by have h := b4.size; simp at h; omega); have hz5 : Hid (SBox (v4.alloc (.cells #[.int .i64 0, .int .i64 0, .int .i64 0, .int .i64 0, .int .i64 0, .int .i64 0, .int .i64 0, .bool false] 40)) w4.heap.size ⟨0, fun _ => 0, false⟩) := hz4.keep (B := v4.heap.size) ((Below.refl _ _).alloc (Nat.le_refl _) _) hlv4; have cw5 : Below w.heap.size w (v4.alloc (.cells #[.int .i64 0, .int .i64 0, .int .i64 0, .int .i64 0, .int .i64 0, .int .i64 0, .int .i64 0, .bool false] 40)) := cw4.alloc (by have := cw4.size; omega) _; have hE2 := hEb.out _ (HG.out.all cw5); clear hEb; obtain ⟨z0, z1, z2, z3, z4, z5, z6, z7⟩ := hz4)
    | (go_at_call 14; refine hE2.mono ?_; rintro ev v5 ⟨rfl, b5⟩; clear hE2 z0 z1 z2 z3 z4 z5 z6 z7; have cw6 := cw5.trans (b5.mono cw5.size); have hz6 := hz5.out.keep b5 (by simp; omega); have hx6 := (SBox.new v4 ⟨0, fun _ => 0, false⟩ _).keep b5 (by simp); obtain ⟨z0, z1, z2, z3, z4, z5, z6, z7⟩ := hz6; obtain ⟨x0, x1, x2, x3, x4, x5, x6, x7⟩ := hx6)
    | (go_at_call 18; refine (hnew _).mono ?_; rintro ev v6 ⟨rfl, b6⟩; clear hnew))
  go_ret
  exact ⟨rfl, cw6.trans (b6.mono cw6.size)⟩
end Go.Proofs.YthbcbdedmillaaaDoor
