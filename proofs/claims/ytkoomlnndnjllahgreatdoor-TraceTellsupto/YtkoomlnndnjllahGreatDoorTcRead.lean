/-
  trace.readRoom, trace.read: a line as an event.
-/
import Derived.Test.YtkoomlnndnjllahGreatDoorJb3
import Derived.Test.YtkoomlnndnjllahGreatDoorJb5
namespace Go.Proofs.YtkoomlnndnjllahGreatDoor
open Go.RowKit

theorem number7_bl (s : ByteArray) (w : World) (ht : Tabs2 w) :
    Calls Tryz.prog 75 #[.string s, .int .i64 7] w fun e w' => e = .returned (.tuple #[.int .i64 ((numB7 (bl s)).getD 0), .bool (numB7 (bl s)).isSome]) ∧ Below w.heap.size w w' := number7_any s w ht
set_option maxRecDepth 100000 in
set_option maxHeartbeats 1000000 in
theorem rroom_any (s : ByteArray) (w : World) (ht : Tabs2 w) :
    Calls Tryz.prog 76 #[.string s] w fun e w' => e = .returned (.tuple #[.int .i64 ((rmOf (bl s)).getD 0), .bool (rmOf (bl s)).isSome]) ∧ Below w.heap.size w w' := by
  have hst : s.toList = s.data.toList := Lib.toList_data s
  by_cases h : bl s = [45]
  · have HR : Hid (rmOf (bl s) = some (-1)) := by show _ = _; unfold rmOf; rw [if_pos h]
    have hb : (s.toList == [45]) = true := by rw [hst, show s.data.toList = [45] from h]; rfl
    clear h hst ht
    go_enter Tryz.func76, Tryz.ntmps76
    go_wp2
    go_ret2
    rw [HR.out]
    exact ⟨rfl, Below.refl _ _⟩
  · have HR : Hid (rmOf (bl s) = numB7 (bl s)) := by show _ = _; unfold rmOf; rw [if_neg h]
    have hb : (s.toList == [45]) = false := by rw [hst]; simpa using (show ¬ s.data.toList = [45] from h)
    have q := number7_bl s w ht
    clear h hst ht
    go_enter Tryz.func76, Tryz.ntmps76
    go_wp2_with (go_at_call 75; refine q.mono ?_; rintro e w1 ⟨rfl, b1⟩; clear q)
    go_ret2
    rw [HR.out]
    exact ⟨rfl, b1⟩
theorem suffix_not (s : ByteArray) (w : World) (hs : ∀ u, bl s ≠ u ++ [10]) (hl : s.size ≤ 140737488355328) :
    Calls Tryz.prog 73 #[.string s, .string ⟨#[10]⟩] w fun e w' => e = .returned (.tuple #[.string ⟨(bl s).toArray⟩, .bool false]) ∧ w' = w := by
  refine (Tryz.strings_CutSuffix s ⟨#[10]⟩ w (by omega)).mono ?_
  rintro e w' ⟨rfl, rfl⟩
  have e1 : Lib.hasSuffix s.data.toList [10] = false := by
    rw [Bool.eq_false_iff]
    intro h
    have : [10] <:+ s.data.toList := by simpa [Lib.hasSuffix] using h
    obtain ⟨u, hu⟩ := this
    exact hs u hu.symm
  have e2 : Lib.trimSuffix s.data.toList [10] = bl s := by unfold Lib.trimSuffix; rw [e1]; rfl
  rw [show ([10] : List UInt8) = (#[10] : Array UInt8).toList from rfl] at e1 e2
  exact ⟨by rw [e1, e2], rfl⟩
def evRes : Option W4 → Value
  | some e => .tuple #[.agg #[.int .i64 e.1, .int .i64 e.2.1, .int .i64 e.2.2.1, .int .i64 e.2.2.2], .bool true]
  | none => .tuple #[.agg #[.int .i64 0, .int .i64 0, .int .i64 0, .int .i64 0], .bool false]
/-- The box of an event that read lays at its head, in a later world. -/
theorem tev_box {w w1 : World} {x y z u : Value} (b1 : Below (w.heap.size + 1) (w.alloc (.cells #[x, y, z, u] 32)) w1) :
    (w1.cell? ⟨w.heap.size, 0, none⟩ = some x ∧ w1.cell? ⟨w.heap.size, 1, none⟩ = some y ∧ w1.cell? ⟨w.heap.size, 2, none⟩ = some z ∧ w1.cell? ⟨w.heap.size, 3, none⟩ = some u) ∧ (w1.frozen? ⟨w.heap.size, 0, none⟩ = false ∧ w1.frozen? ⟨w.heap.size, 1, none⟩ = false ∧ w1.frozen? ⟨w.heap.size, 2, none⟩ = false ∧ w1.frozen? ⟨w.heap.size, 3, none⟩ = false) ∧ Below w.heap.size w w1 :=
  ⟨⟨(b1.cell (p := ⟨w.heap.size, 0, none⟩) (by simp)).trans (by simp), (b1.cell (p := ⟨w.heap.size, 1, none⟩) (by simp)).trans (by simp), (b1.cell (p := ⟨w.heap.size, 2, none⟩) (by simp)).trans (by simp), (b1.cell (p := ⟨w.heap.size, 3, none⟩) (by simp)).trans (by simp)⟩,
   ⟨(b1.frozen (p := ⟨w.heap.size, 0, none⟩) (by simp)).trans (by simp), (b1.frozen (p := ⟨w.heap.size, 1, none⟩) (by simp)).trans (by simp), (b1.frozen (p := ⟨w.heap.size, 2, none⟩) (by simp)).trans (by simp), (b1.frozen (p := ⟨w.heap.size, 3, none⟩) (by simp)).trans (by simp)⟩,
   ((Below.refl _ w).alloc (Nat.le_refl _) _).trans (b1.mono (by omega))⟩
theorem tev_box_set {w w1 : World} (hb : Below w.heap.size w w1) (x y z u : Value) : Below w.heap.size w ((((w1.setCell ⟨w.heap.size, 0, none⟩ x).setCell ⟨w.heap.size, 1, none⟩ y).setCell ⟨w.heap.size, 2, none⟩ z).setCell ⟨w.heap.size, 3, none⟩ u) :=
  (((hb.setCell (p := ⟨w.heap.size, 0, none⟩) (Nat.le_refl _) _).setCell (p := ⟨w.heap.size, 1, none⟩) (Nat.le_refl _) _).setCell (p := ⟨w.heap.size, 2, none⟩) (Nat.le_refl _) _).setCell (p := ⟨w.heap.size, 3, none⟩) (Nat.le_refl _) _
set_option maxRecDepth 1000000 in
set_option maxHeartbeats 4000000 in
theorem tread_no (s : ByteArray) (w : World) (hl : s.size ≤ 140737488355328) (hs : ∀ u, bl s ≠ u ++ [10]) :
    Calls Tryz.prog 43 #[.string s] w fun e w' => e = .returned (evRes none) ∧ Below w.heap.size w w' := by
  have hS := suffix_not s (w.alloc (.cells #[.int .i64 0, .int .i64 0, .int .i64 0, .int .i64 0] 32)) hs hl
  have hP := splitn_any ⟨(bl s).toArray⟩ (w.alloc (.cells #[.int .i64 0, .int .i64 0, .int .i64 0, .int .i64 0] 32)) (by rw [ba_size']; exact (show s.data.toList.length = s.size by simp).symm ▸ hl)
  unfold evRes
  clear hs hl
  go_enter Tryz.func43, Tryz.ntmps43
  go_wp2_with (first | (go_at_call 73; refine hS.mono ?_; rintro e wx ⟨rfl, hwx⟩; obtain rfl := hwx.symm; clear hS) | (go_at_call 74; refine hP.mono ?_; rintro e w1 ⟨g, ps, cap, rfl, _, _, _, b1⟩; clear hP; obtain ⟨⟨k0, k1, k2, k3⟩, ⟨f0, f1, f2, f3⟩, bw⟩ := tev_box (by simpa using b1)))
  refine bodyPost_ret (v := .tuple #[.agg #[.int .i64 0, .int .i64 0, .int .i64 0, .int .i64 0], .bool false]) ?_ rfl ⟨rfl, ?_⟩
  · simp [results, Tryz.results43, go_sem, k0, k1, k2, k3]
  · exact tev_box_set bw _ _ _ _
set_option maxRecDepth 1000000 in
set_option maxHeartbeats 4000000 in
theorem tread_yes (s : ByteArray) (u : List UInt8) (w : World) (ht : Tabs2 w) (hl : s.size ≤ 140737488355328) (hs : bl s = u ++ [10]) :
    Calls Tryz.prog 43 #[.string s] w fun e w' => e = .returned (evRes (evOf1 u)) ∧ Below w.heap.size w w' := by
  have hul : u.length ≤ 140737488355328 := by
    have h1 : s.data.toList.length = s.size := by simp
    have h2 : (bl s).length = s.size := h1
    rw [hs, List.length_append] at h2
    omega
  have hw0 : Below w.heap.size w (w.alloc (.cells #[.int .i64 0, .int .i64 0, .int .i64 0, .int .i64 0] 32)) := (Below.refl _ _).alloc (Nat.le_refl _) _
  have hS := suffix_yes7 s u (w.alloc (.cells #[.int .i64 0, .int .i64 0, .int .i64 0, .int .i64 0] 32)) hs hl
  have hP := splitn_any ⟨u.toArray⟩ (w.alloc (.cells #[.int .i64 0, .int .i64 0, .int .i64 0, .int .i64 0] 32)) (by rw [ba_size']; exact hul)
  have HT : Hid (∀ W, Below w.heap.size w W → Tabs2 W) := fun W hb => ht.all hb
  have hub : bl ⟨u.toArray⟩ = u := by unfold bl; simp
  rw [hub] at hP
  clear hs hl hul ht hub
  go_enter Tryz.func43, Tryz.ntmps43
  go_upto_region 3 with (first | (go_at_call 73; refine hS.mono ?_; rintro e wx ⟨rfl, hwx⟩; obtain rfl := hwx.symm; clear hS) | (go_at_call 74; refine hP.mono ?_; rintro e w1 ⟨g, ps, cap, rfl, hq, hg, hc, b1⟩; clear hP))
  have bz : Below (w.heap.size + 1) (w.alloc (.cells #[.int .i64 0, .int .i64 0, .int .i64 0, .int .i64 0] 32)) w1 := by simpa using b1
  obtain ⟨⟨k0, k1, k2, k3⟩, ⟨f0, f1, f2, f3⟩, bw⟩ := tev_box bz
  by_cases h4 : ps.length = 4
  · obtain ⟨a, b, c, d, rfl⟩ : ∃ a b c d, ps = [a, b, c, d] := by
      match ps, h4 with
      | [a, b, c, d], _ => exact ⟨a, b, c, d, rfl⟩
    have hcut : cutB 32 u = [bl a, bl b, bl c, bl d] := by
      rcases hq with ⟨_, h⟩ | ⟨h, _⟩
      · exact h
      · simp at h
    have HV : Hid (evOf1 u = ev4 (numB7 (bl a)) (rmOf (bl b)) (numB7 (bl c)) (numB7 (bl d))) := evOf1_of hcut
    have c0 := hc 0 a rfl
    have c1 := hc 1 b rfl
    have c2 := hc 2 c rfl
    have c3 := hc 3 d rfl
    have q1 := number7_bl a w1 (HT.out _ bw)
    clear h4 hq hc hcut
    go_upto_region 6 with (go_at_call 75; refine q1.mono ?_; rintro e w2 ⟨rfl, b2⟩; clear q1)
    have bw2 := bw.trans (b2.mono bw.size)
    have bz2 := bz.trans (b2.mono (by have := bz.size; simpa using this))
    have g2 : g < w2.heap.size := Nat.lt_of_lt_of_le hg b2.size
    replace c1 := (b2.cell (p := ⟨g, 1, none⟩) hg).trans c1
    replace c2 := (b2.cell (p := ⟨g, 2, none⟩) hg).trans c2
    replace c3 := (b2.cell (p := ⟨g, 3, none⟩) hg).trans c3
    have q2 := rroom_any b w2 (HT.out _ bw2)
    clear c0 k0 k1 k2 k3 f0 f1 f2 f3 b2 hg bw bz b1
    go_upto_region 7 with (go_at_call 76; refine q2.mono ?_; rintro e w3 ⟨rfl, b3⟩; clear q2)
    have bw3 := bw2.trans (b3.mono bw2.size)
    have bz3 := bz2.trans (b3.mono (by have := bz2.size; simpa using this))
    have g3 : g < w3.heap.size := Nat.lt_of_lt_of_le g2 b3.size
    replace c2 := (b3.cell (p := ⟨g, 2, none⟩) g2).trans c2
    replace c3 := (b3.cell (p := ⟨g, 3, none⟩) g2).trans c3
    have q3 := number7_bl c w3 (HT.out _ bw3)
    clear c1 b3 g2 bw2 bz2
    go_upto_region 8 with (go_at_call 75; refine q3.mono ?_; rintro e w4 ⟨rfl, b4⟩; clear q3)
    have bw4 := bw3.trans (b4.mono bw3.size)
    have bz4 := bz3.trans (b4.mono (by have := bz3.size; simpa using this))
    replace c3 := (b4.cell (p := ⟨g, 3, none⟩) g3).trans c3
    have q4 := number7_bl d w4 (HT.out _ bw4)
    clear c2 b4 g3 bw3 bz3
    go_upto_region 9 with (go_at_call 75; refine q4.mono ?_; rintro e w5 ⟨rfl, b5⟩; clear q4)
    have bw5 := bw4.trans (b5.mono bw4.size)
    have bz5 := bz4.trans (b5.mono (by have := bz4.size; simpa using this))
    obtain ⟨⟨k0, k1, k2, k3⟩, ⟨f0, f1, f2, f3⟩, bw⟩ := tev_box bz5
    clear c3 b5 bw4 bz4 bw5 bz5
    generalize numB7 (bl a) = A at HV ⊢
    generalize rmOf (bl b) = B at HV ⊢
    generalize numB7 (bl c) = C at HV ⊢
    generalize numB7 (bl d) = D at HV ⊢
    have hfin : ∀ z0 z1 z2 z3 : Int, Below w.heap.size w ((((w5.setCell ⟨w.heap.size, 0, none⟩ (.int .i64 z0)).setCell ⟨w.heap.size, 1, none⟩ (.int .i64 z1)).setCell ⟨w.heap.size, 2, none⟩ (.int .i64 z2)).setCell ⟨w.heap.size, 3, none⟩ (.int .i64 z3)) := fun _ _ _ _ => tev_box_set bw _ _ _ _
    cases A with
    | none =>
      have HN : Hid (evOf1 u = none) := HV.out.trans (ev4_n1 _ _ _)
      clear HV
      go_wp2
      refine bodyPost_ret (v := .tuple #[.agg #[.int .i64 0, .int .i64 0, .int .i64 0, .int .i64 0], .bool false]) ?_ rfl ⟨by rw [HN.out]; rfl, hfin _ _ _ _⟩
      simp [results, Tryz.results43, go_sem, k0, k1, k2, k3]
    | some x0 =>
      cases B with
      | none =>
        have HN : Hid (evOf1 u = none) := HV.out.trans (ev4_n2 _ _ _)
        clear HV
        go_wp2
        refine bodyPost_ret (v := .tuple #[.agg #[.int .i64 0, .int .i64 0, .int .i64 0, .int .i64 0], .bool false]) ?_ rfl ⟨by rw [HN.out]; rfl, hfin _ _ _ _⟩
        simp [results, Tryz.results43, go_sem, k0, k1, k2, k3]
      | some x1 =>
        cases C with
        | none =>
          have HN : Hid (evOf1 u = none) := HV.out.trans (ev4_n3 _ _ _)
          clear HV
          go_wp2
          refine bodyPost_ret (v := .tuple #[.agg #[.int .i64 0, .int .i64 0, .int .i64 0, .int .i64 0], .bool false]) ?_ rfl ⟨by rw [HN.out]; rfl, hfin _ _ _ _⟩
          simp [results, Tryz.results43, go_sem, k0, k1, k2, k3]
        | some x2 =>
          cases D with
          | none =>
            have HN : Hid (evOf1 u = none) := HV.out.trans (ev4_n4 _ _ _)
            clear HV
            go_wp2
            refine bodyPost_ret (v := .tuple #[.agg #[.int .i64 0, .int .i64 0, .int .i64 0, .int .i64 0], .bool false]) ?_ rfl ⟨by rw [HN.out]; rfl, hfin _ _ _ _⟩
            simp [results, Tryz.results43, go_sem, k0, k1, k2, k3]
          | some x3 =>
            have HN : Hid (evOf1 u = some (x0, x1, x2, x3)) := HV.out
            clear HV
            go_wp2
            refine bodyPost_ret (v := .tuple #[.agg #[.int .i64 x0, .int .i64 x1, .int .i64 x2, .int .i64 x3], .bool true]) ?_ rfl ⟨by rw [HN.out]; rfl, hfin _ _ _ _⟩
            simp [results, Tryz.results43, go_sem, k0, k1, k2, k3]
  · have HN : Hid (evOf1 u = none) := by
      refine evOf1_not4 ?_
      rcases hq with ⟨_, h⟩ | ⟨_, h⟩
      · rw [h, List.length_map]; exact h4
      · omega
    have hn4 : ((ps.length : Int) == 4) = false := by simp; omega
    have hn4' : ((ps.length : Int) != 4) = true := by simp; omega
    clear hq hc h4
    go_wp2
    refine bodyPost_ret (v := .tuple #[.agg #[.int .i64 0, .int .i64 0, .int .i64 0, .int .i64 0], .bool false]) ?_ rfl ⟨by rw [HN.out]; rfl, ?_⟩
    · simp [results, Tryz.results43, go_sem, k0, k1, k2, k3]
    · exact tev_box_set bw _ _ _ _
theorem tread_any (s : ByteArray) (w : World) (ht : Tabs2 w) (hl : s.size ≤ 140737488355328) :
    Calls Tryz.prog 43 #[.string s] w fun e w' => e = .returned (evRes (evRd (bl s))) ∧ Below w.heap.size w w' := by
  by_cases h : ∃ u, bl s = u ++ [10]
  · obtain ⟨u, hu⟩ := h
    rw [hu, evRd_yes]
    exact tread_yes s u w ht hl hu
  · have h2 : ∀ u, bl s ≠ u ++ [10] := fun u e => h ⟨u, e⟩
    rw [evRd_no h2]
    exact tread_no s w hl h2
end Go.Proofs.YtkoomlnndnjllahGreatDoor
