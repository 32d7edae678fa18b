/-
  frameref1.ReadOp: a line as an op; of any line.
-/
import Derived.Test.YtamnfadngbbaeacGreatDoorMathA
import Derived.Test.YtamnfadngbbaeacGreatDoorRefNumA
import Derived.Test.YtamnfadngbbaeacGreatDoorRefTextA
namespace Go.Proofs.YtamnfadngbbaeacGreatDoor
open Go.RowKit

theorem rcut_line (s : ByteArray) (p : List UInt8) (ps : List (List UInt8)) (w : World) (hs : s.size ≤ 1099511627776) (hc : cutB 32 s.data.toList = p :: ps) :
    Calls Tryz.prog 28 #[.string s, .int .u8 32] w fun e w' => (∃ g cap, e = .returned (.slice (some ⟨g, 0, none⟩) (ps.length + 1) cap) ∧ Strs w' (.slice (some ⟨g, 0, none⟩) (ps.length + 1) cap) (p :: ps) ∧ g < w'.heap.size ∧ w'.cell? ⟨g, 0, none⟩ = some (.string ⟨p.toArray⟩)) ∧ Below w.heap.size w w' := by
  refine (cut_any s 32 32 rfl w hs).mono ?_
  rintro e w' ⟨v, rfl, ho, hb⟩
  rw [hc] at ho
  have hst := strs_of_own ho (by simp)
  obtain ⟨g, cap, rfl, hg, hcl⟩ := hst
  exact ⟨⟨g, cap, rfl, ⟨g, cap, rfl, hg, hcl⟩, hg, hcl 0 p rfl⟩, hb⟩
theorem rnums_none (v : Value) (p : List UInt8) (ps : List (List UInt8)) (w : World) (hv : Strs w v (p :: ps)) (hlen : ps.length ≤ 1099511627776) (hn : numsOf ps = none) :
    Calls Tryz.prog 29 #[v, .int .i64 4] w fun e w' => (∃ ao n cap, e = .returned (.tuple #[.slice ao n cap, .bool false])) ∧ Below w.heap.size w w' := by
  refine (numbers_any v p ps w hv hlen).mono ?_
  rintro e w' ⟨v', rfl, hi, hb⟩
  obtain ⟨ao, cap, rfl, _⟩ := ints_form hi
  exact ⟨⟨ao, _, cap, by rw [hn]; rfl⟩, hb⟩
theorem rnums_some (v : Value) (p : List UInt8) (ps : List (List UInt8)) (ns : List Int) (w : World) (hv : Strs w v (p :: ps)) (hlen : ps.length ≤ 1099511627776) (hn : numsOf ps = some ns) :
    Calls Tryz.prog 29 #[v, .int .i64 4] w fun e w' => (∃ ao n cap, e = .returned (.tuple #[.slice ao n cap, .bool true]) ∧ ns.length = n ∧ IntAt w' ao ns) ∧ Below w.heap.size w w' := by
  refine (numbers_any v p ps w hv hlen).mono ?_
  rintro e w' ⟨v', rfl, hi, hb⟩
  rw [hn] at hi ⊢
  obtain ⟨ao, cap, rfl, h⟩ := ints_form hi
  exact ⟨⟨ao, _, cap, rfl, rfl, h⟩, hb⟩
theorem intAt_all {w w' : World} {ao : Option Addr} {zs : List Int} (h : IntAt w ao zs) (hb : Below w.heap.size w w') : IntAt w' ao zs := by
  rcases h with h | ⟨a, rfl, ha, hc⟩
  · exact Or.inl h
  · exact Or.inr ⟨a, rfl, Nat.lt_of_lt_of_le ha hb.size, fun i z hz => (hb.cell (p := a.add i) (by rw [add_block]; exact ha)).trans (hc i z hz)⟩
theorem intAt_one {w : World} {ao : Option Addr} {x : Int} (h : IntAt w ao [x]) : ∃ a, ao = some a ∧ w.cell? a = some (.int .i64 x) := by
  rcases h with h | ⟨a, rfl, _, hc⟩
  · cases h
  · exact ⟨a, rfl, hc 0 x rfl⟩
theorem intAt_two {w : World} {ao : Option Addr} {x y : Int} (h : IntAt w ao [x, y]) : ∃ a, ao = some a ∧ w.cell? a = some (.int .i64 x) ∧ w.cell? ⟨a.block, a.off + 1, none⟩ = some (.int .i64 y) := by
  rcases h with h | ⟨a, rfl, _, hc⟩
  · cases h
  · exact ⟨a, rfl, hc 0 x rfl, hc 1 y rfl⟩

/-- The box of the result. -/
def Box0 (w W : World) : Prop := Below (w.heap.size + 1) (w.alloc (.cells #[.int .i64 0, .int .i64 0, .int .i64 0] 73)) W
theorem Box0.first (w : World) : Box0 w (w.alloc (.cells #[.int .i64 0, .int .i64 0, .int .i64 0] 73)) := Below.refl _ _
theorem Box0.size {w W : World} (h : Box0 w W) : w.heap.size + 1 ≤ W.heap.size := by
  have := Below.size h
  simpa using this
theorem Box0.step {w W W' : World} (h : Box0 w W) (hb : Below W.heap.size W W') : Box0 w W' := Below.trans h (hb.mono h.size)
theorem Box0.done {w W : World} (h : Box0 w W) (x y z : Value) : Below w.heap.size w (((W.setCell ⟨w.heap.size, 0, none⟩ x).setCell ⟨w.heap.size, 1, none⟩ y).setCell ⟨w.heap.size, 2, none⟩ z) := by
  obtain ⟨_, _, _, _, _, _, bw⟩ := op_box h
  exact ((bw.setCell (p := ⟨w.heap.size, 0, none⟩) (Nat.le_refl _) _).setCell (p := ⟨w.heap.size, 1, none⟩) (Nat.le_refl _) _).setCell (p := ⟨w.heap.size, 2, none⟩) (Nat.le_refl _) _

set_option maxRecDepth 1000000 in
set_option maxHeartbeats 8000000 in
theorem rop_bad (s : ByteArray) (p : List UInt8) (ps : List (List UInt8)) (w : World) (hs : s.size ≤ 1099511627776) (hc : cutB 32 s.data.toList = p :: ps) (hn : numsOf ps = none) :
    Calls Tryz.prog 30 #[.string s] w fun e w' => e = .returned (.tuple #[.agg #[.int .i64 0, .int .i64 0, .int .i64 0], .bool false]) ∧ Below w.heap.size w w' := by
  have hcut := rcut_line s p ps (w.alloc (.cells #[.int .i64 0, .int .i64 0, .int .i64 0] 73)) hs hc
  have X0 := Box0.first w
  have hlen : ps.length ≤ 1099511627776 := by
    have := (cutGo_len 32 s.data.toList []).2
    rw [show cutGo 32 [] s.data.toList = p :: ps from hc] at this
    simp at this
    omega
  have hnum := fun W v h => rnums_none v p ps W h hlen hn
  clear hc hn hlen
  go_enter Tryz.func30, Tryz.ntmps30
  go_wp2_with (first | (go_at_call 28; refine hcut.mono ?_; rintro e w1 ⟨⟨g, cap, rfl, hst, hg, hgc⟩, b1⟩; clear hcut) | (go_at_call 29; refine (hnum _ _ hst).mono ?_; rintro e w2 ⟨⟨ao, n, cap2, rfl⟩, b2⟩; clear hnum))
  have hb0 := (X0.step b1).step b2
  clear hst hgc b1 b2 X0
  go_loopw [7] (fun i wr => ∃ k : Nat, 1 ≤ k ∧ k ≤ 12 ∧ i = .int .i64 k ∧ Box0 w wr) (fun i _ => 12 - (intOf i).toNat)
  case atStart => exact ⟨1, by omega, by omega, rfl, hb0⟩
  case round =>
    obtain ⟨k, hk1, hk2, rfl, hb⟩ := hrel
    by_cases hk : k ≤ 11
    · have hnm := rname_any k hk1 hk wr
      obtain ⟨X, hX⟩ : ∃ X, X = nameB k := ⟨_, rfl⟩
      rw [← hX] at hnm
      clear hX
      go_wp2_with (go_at_call 52; refine hnm.mono ?_; rintro e w3 ⟨rfl, b3⟩; clear hnm)
      go_roundw
      case rel => exact ⟨k + 1, by omega, by omega, by go_num, hb.step b3⟩
      case measure => simp [intOf]; omega
    · obtain ⟨k0, k1, k2, j0, j1, j2, _⟩ := op_box hb
      have hend := hb.done (.int .i64 0) (.int .i64 0) (.int .i64 0)
      go_wp2
      refine bodyPost_ret (v := .tuple #[.agg #[.int .i64 0, .int .i64 0, .int .i64 0], .bool false]) ?_ rfl ⟨rfl, hend⟩
      simp [results, Tryz.results30, go_sem, k0, k1, k2]

theorem ret_op {o : Option O3} {x y z : Int} {b : Bool} (h : opRes o = .tuple #[.agg #[.int .i64 x, .int .i64 y, .int .i64 z], .bool b]) : Ending.returned (.tuple #[.agg #[.int .i64 x, .int .i64 y, .int .i64 z], .bool b]) = .returned (opRes o) := by rw [h]

set_option maxRecDepth 1000000 in
set_option maxHeartbeats 8000000 in
theorem rop_good (s : ByteArray) (p : List UInt8) (ps : List (List UInt8)) (ns : List Int) (w : World) (hs : s.size ≤ 1099511627776) (hc : cutB 32 s.data.toList = p :: ps) (hn : numsOf ps = some ns) :
    Calls Tryz.prog 30 #[.string s] w fun e w' => e = .returned (opRes (rop p ps)) ∧ Below w.heap.size w w' := by
  have hcut := rcut_line s p ps (w.alloc (.cells #[.int .i64 0, .int .i64 0, .int .i64 0] 73)) hs hc
  have X0 := Box0.first w
  have hlen : ps.length ≤ 1099511627776 := by
    have := (cutGo_len 32 s.data.toList []).2
    rw [show cutGo 32 [] s.data.toList = p :: ps from hc] at this
    simp at this
    omega
  have hnum := fun W v h => rnums_some v p ps ns W h hlen hn
  have HN : Hid (numsOf ps = some ns) := hn
  clear hc hn hlen
  go_enter Tryz.func30, Tryz.ntmps30
  go_wp2_with (first | (go_at_call 28; refine hcut.mono ?_; rintro e w1 ⟨⟨g, cap, rfl, hst, hg, hgc⟩, b1⟩; clear hcut) | (go_at_call 29; refine (hnum _ _ hst).mono ?_; rintro e w2 ⟨⟨ao, n, cap2, rfl, hnl, hat⟩, b2⟩; clear hnum))
  have hb0 := (X0.step b1).step b2
  have hgc2 : w2.cell? ⟨g, 0, none⟩ = some (.string ⟨p.toArray⟩) := (b2.cell (p := ⟨g, 0, none⟩) hg).trans hgc
  have hg2 : g < w2.heap.size := Nat.lt_of_lt_of_le hg b2.size
  clear hst hgc b1 b2 hg X0
  have HNL : Hid (ns.length = n) := hnl
  clear hnl
  go_loopw [7] (fun i wr => ∃ k : Nat, 1 ≤ k ∧ k ≤ 12 ∧ i = .int .i64 k ∧ Below w2.heap.size w2 wr ∧ Hid (∀ j : Nat, 1 ≤ j → j < k → p = nameB j → asm j ns = none)) (fun i _ => 12 - (intOf i).toNat)
  case atStart => exact ⟨1, by omega, by omega, rfl, Below.refl _ _, fun j h1 h2 => by omega⟩
  case round =>
    obtain ⟨k, hk1, hk2, rfl, hb, HA⟩ := hrel
    have hbw := hb0.step hb
    by_cases hk : k ≤ 11
    · have hnm := rname_any k hk1 hk wr
      have step : Hid ((p = nameB k → asm k ns = none) → ∀ j : Nat, 1 ≤ j → j < k + 1 → p = nameB j → asm j ns = none) := fun h j h1 h2 => by
        by_cases hj : j < k
        · exact HA.out j h1 hj
        · obtain rfl : j = k := by omega
          exact h
      have hgc3 : wr.cell? ⟨g, 0, none⟩ = some (.string ⟨p.toArray⟩) := (hb.cell (p := ⟨g, 0, none⟩) hg2).trans hgc2
      have hgr : g < wr.heap.size := Nat.lt_of_lt_of_le hg2 hb.size
      have hatr := intAt_all hat hb
      by_cases hpx : p = nameB k
      · have HR : Hid (rop p ps = asm k ns) := rop_hit k hk1 hk HN.out hpx
        rw [← hpx] at hnm
        have hne : (p == p) = true := by simp
        have hnm' : Calls Tryz.prog 52 #[.int .i64 k] wr fun e w' => e = .returned (.string ⟨p.toArray⟩) ∧ w'.cell? ⟨g, 0, none⟩ = some (.string ⟨p.toArray⟩) ∧ IntAt w' ao ns ∧ Below wr.heap.size wr w' := hnm.mono fun e w' h => ⟨h.1, (h.2.cell (p := ⟨g, 0, none⟩) hgr).trans hgc3, intAt_all hatr h.2, h.2⟩
        clear hpx hnm hgc3 HA hgc2 hat hatr
        by_cases h7 : k = 7
        · subst h7
          have HV : Hid (asm ((7 : Nat) : Int) ns = asmJ ns) := asm_jump ns
          by_cases h1 : n = 1
          · subst h1
            obtain ⟨x, hx⟩ : ∃ x, ns = [x] := List.length_eq_one_iff.1 HNL.out
            subst hx
            go_wp2_with (go_at_call 52; refine hnm'.mono ?_; rintro e w3 ⟨rfl, hgc4, hat4, b3⟩; clear hnm'; obtain ⟨a, rfl, ca⟩ := intAt_one hat4; clear hat4; have hb3 := hbw.step b3; obtain ⟨k0, k1, k2, j0, j1, j2, _⟩ := op_box hb3; have hend := hb3.done (.int .i64 7) (.int .i64 0) (.int .i64 x))
            refine bodyPost_ret (v := .tuple #[.agg #[.int .i64 7, .int .i64 0, .int .i64 x], .bool true]) ?_ rfl ⟨ret_op (by rw [HR.out]; exact congrArg opRes HV.out), hend⟩
            simp [results, Tryz.results30, go_sem, k0, k1, k2]
          · have h1' : ((n : Int) == 1) = false := by simp; omega
            have HZ : Hid (asm ((7 : Nat) : Int) ns = none) := HV.out.trans (asmJ_no (by rw [HNL.out]; exact h1))
            clear HV
            go_wp2_with (go_at_call 52; refine hnm'.mono ?_; rintro e w3 ⟨rfl, hgc4, hat4, b3⟩; clear hnm' hat4)
            go_roundw
            case rel => exact ⟨8, by omega, by omega, by go_num, hb.trans (b3.mono hb.size), step.out fun _ => HZ.out⟩
            case measure => simp [intOf]
        · have h7' : ((k : Int) == 7) = false := by simp; omega
          by_cases h10 : k < 10
          · have h10' : ¬ (10 : Int) ≤ (k : Int) := by omega
            have h10'' : (k : Int) < 10 := by omega
            have HV : Hid (asm k ns = asmT k ns) := asm_two k hk1 h10 h7 ns
            by_cases h1 : n = 2
            · subst h1
              obtain ⟨x, y, hx⟩ : ∃ x y, ns = [x, y] := two_of HNL.out
              subst hx
              go_wp2_with (go_at_call 52; refine hnm'.mono ?_; rintro e w3 ⟨rfl, hgc4, hat4, b3⟩; clear hnm'; obtain ⟨a, rfl, ca, cb⟩ := intAt_two hat4; clear hat4; have hb3 := hbw.step b3; obtain ⟨k0, k1, k2, j0, j1, j2, _⟩ := op_box hb3; have hend := hb3.done (.int .i64 k) (.int .i64 x) (.int .i64 y))
              go_region
              all_goals go_wp2
              refine bodyPost_ret (v := .tuple #[.agg #[.int .i64 k, .int .i64 x, .int .i64 y], .bool true]) ?_ rfl ⟨ret_op (by rw [HR.out]; exact congrArg opRes HV.out), hend.drew⟩
              simp [results, Tryz.results30, go_sem, k0, k1, k2]
            · have h1' : ((n : Int) == 2) = false := by simp; omega
              have HZ : Hid (asm k ns = none) := HV.out.trans (asmT_no (by rw [HNL.out]; exact h1))
              clear HV
              go_wp2_with (go_at_call 52; refine hnm'.mono ?_; rintro e w3 ⟨rfl, hgc4, hat4, b3⟩; clear hnm' hat4)
              go_roundw
              case rel => exact ⟨k + 1, by omega, by omega, by go_num, hb.trans (b3.mono hb.size), step.out fun _ => HZ.out⟩
              case measure => simp [intOf]; omega
          · have h10' : (10 : Int) ≤ (k : Int) := by omega
            have h10'' : ¬ (k : Int) < 10 := by omega
            have HV : Hid (asm k ns = asmR k ns) := asm_rest k (by omega) ns
            by_cases h1 : n = 0
            · subst h1
              have hx : ns = [] := List.eq_nil_of_length_eq_zero HNL.out
              subst hx
              go_wp2_with (go_at_call 52; refine hnm'.mono ?_; rintro e w3 ⟨rfl, hgc4, hat4, b3⟩; clear hnm' hat4; have hb3 := hbw.step b3; obtain ⟨k0, k1, k2, j0, j1, j2, _⟩ := op_box hb3; have hend := hb3.done (.int .i64 k) (.int .i64 0) (.int .i64 0))
              refine bodyPost_ret (v := .tuple #[.agg #[.int .i64 k, .int .i64 0, .int .i64 0], .bool true]) ?_ rfl ⟨ret_op (by rw [HR.out]; exact congrArg opRes HV.out), hend⟩
              simp [results, Tryz.results30, go_sem, k0, k1, k2]
            · have h1' : ((n : Int) == 0) = false := by simp; omega
              have HZ : Hid (asm k ns = none) := HV.out.trans (asmR_no (by rw [HNL.out]; exact h1))
              clear HV
              go_wp2_with (go_at_call 52; refine hnm'.mono ?_; rintro e w3 ⟨rfl, hgc4, hat4, b3⟩; clear hnm' hat4)
              go_roundw
              case rel => exact ⟨k + 1, by omega, by omega, by go_num, hb.trans (b3.mono hb.size), step.out fun _ => HZ.out⟩
              case measure => simp [intOf]; omega
      · obtain ⟨X, hX⟩ : ∃ X, X = nameB k := ⟨_, rfl⟩
        have HP : Hid (p = nameB k → asm k ns = none) := fun h => absurd h hpx
        have hne : (X == p) = false := by rw [hX]; simp; exact fun e => hpx e.symm
        rw [← hX] at hnm
        have hnm' : Calls Tryz.prog 52 #[.int .i64 k] wr fun e w' => e = .returned (.string ⟨X.toArray⟩) ∧ w'.cell? ⟨g, 0, none⟩ = some (.string ⟨p.toArray⟩) ∧ Below wr.heap.size wr w' := hnm.mono fun e w' h => ⟨h.1, (h.2.cell (p := ⟨g, 0, none⟩) hgr).trans hgc3, h.2⟩
        clear hX hpx hnm hgc3 HA hgc2 hat hatr
        go_wp2_with (go_at_call 52; refine hnm'.mono ?_; rintro e w3 ⟨rfl, hgc4, b3⟩; clear hnm')
        go_roundw
        case rel => exact ⟨k + 1, by omega, by omega, by go_num, hb.trans (b3.mono hb.size), step.out HP.out⟩
        case measure => simp [intOf]; omega
    · have HE : Hid (rop p ps = none) := rop_end HN.out fun j h1 h2 => HA.out j h1 (by omega)
      clear HA hgc2 hat
      obtain ⟨k0, k1, k2, j0, j1, j2, _⟩ := op_box hbw
      have hend := hbw.done (.int .i64 0) (.int .i64 0) (.int .i64 0)
      go_wp2
      refine bodyPost_ret (v := .tuple #[.agg #[.int .i64 0, .int .i64 0, .int .i64 0], .bool false]) ?_ rfl ⟨ret_op (by rw [HE.out]; rfl), hend⟩
      simp [results, Tryz.results30, go_sem, k0, k1, k2]

theorem rop_any (s : ByteArray) (w : World) (hs : s.size ≤ 1099511627776) :
    Calls Tryz.prog 30 #[.string s] w fun e w' => e = .returned (opRes (opRead (s.data.toList ++ [10]))) ∧ Below w.heap.size w w' := by
  obtain ⟨p, ps, hc⟩ : ∃ p ps, cutB 32 s.data.toList = p :: ps := by
    have := (cutGo_len 32 s.data.toList []).1
    unfold cutB
    cases h : cutGo 32 [] s.data.toList with
    | nil => rw [h] at this; simp at this
    | cons p ps => exact ⟨p, ps, rfl⟩
  rw [opRead_cut hc]
  cases hn : numsOf ps with
  | none => rw [rop_nums hn]; exact rop_bad s p ps w hs hc hn
  | some ns => exact rop_good s p ps ns w hs hc hn
end Go.Proofs.YtamnfadngbbaeacGreatDoor
