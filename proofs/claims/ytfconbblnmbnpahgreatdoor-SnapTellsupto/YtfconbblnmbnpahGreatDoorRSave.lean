/-
  frameref2.Save: the document's text of a kernel.
-/
import Derived.Test.YtfconbblnmbnpahGreatDoorJa4
import Derived.Test.YtfconbblnmbnpahGreatDoorJa12
import Derived.Test.YtfconbblnmbnpahGreatDoorJa3
import Derived.Test.YtfconbblnmbnpahGreatDoorJa1
import Derived.Deep.CutRange
import Derived.RangeFuncNested
namespace Go.Proofs.YtfconbblnmbnpahGreatDoor
open Go.RowKit

theorem sn_lone {W : World} {k : Nat} (hk : k = W.heap.size) (a : Int) (t : TypeId) : Ints (W.alloc (.cells #[.int .i64 a] t)) (.slice (some ⟨k, 0, none⟩) 1 1) [a] := by
  subst hk
  refine Or.inr ⟨⟨W.heap.size, 0, none⟩, 1, rfl, by simp, fun i z hz => ?_⟩
  match i, hz with
  | 0, hz => simp at hz; subst hz; simp [Addr.add]
theorem stN_take (s : St) {n : Nat} (h : n < 6) : (stN s).take (n + 2) = (stN s).take (n + 1) ++ [s.c n] := by
  unfold stN
  match n, h with
  | 0, _ => rfl
  | 1, _ => rfl
  | 2, _ => rfl
  | 3, _ => rfl
  | 4, _ => rfl
  | 5, _ => rfl
theorem stN_all (s : St) : stN s = (stN s).take 7 ++ [if s.f = true then 1 else 0] := rfl
theorem stb_cell {W : World} {b : Nat} {s : St} (h : StB W b s) {n : Nat} (hn : n < 6) : W.cell? ⟨b, 1 + n, none⟩ = some (.int .i64 (s.c n)) := by
  obtain ⟨_, h1, h2, h3, h4, h5, h6, _⟩ := h.cs
  simp only [Nat.zero_add] at h1 h2 h3 h4 h5 h6
  match n, hn with
  | 0, _ => exact h1
  | 1, _ => exact h2
  | 2, _ => exact h3
  | 3, _ => exact h4
  | 4, _ => exact h5
  | 5, _ => exact h6
set_option maxRecDepth 100000 in
set_option maxHeartbeats 16000000 in
theorem rsave_any (p : PD) (vc vs vw : Value) (k : KD) (a : KW) (base : Nat) (w : World) (h : RK w base p vc vs vw k a) (hs : SnSmall k) :
    Calls Tryz.prog 28 #[.pointer (some ⟨a.kb, 0, none⟩)] w fun e w' => e = .returned (.string ⟨(snB k).toArray⟩) ∧ Below w.heap.size w w' := by
  have H : Hid (RK w base p vc vs vw k a) := h
  have HS : Hid (SnSmall k) := hs
  have HLR : Hid (∀ j, (sxR k j).length ≤ 2000) := (sx_len hs).1
  have HLW : Hid (∀ j, (sxW k j).length ≤ 6000) := (sx_len hs).2
  have c6 := h.c6
  have hrl := hs.rl
  have hll := hs.ll
  have q1 := row_any [116, 105, 109, 101] (.slice (some ⟨w.heap.size, 0, none⟩) 1 1) [k.time] _ (sn_lone (W := w) rfl k.time 3) (fun z hz => by rw [List.mem_singleton] at hz; subst hz; exact hs.tm) (by simp)
  have hl0 : ([116, 105, 109, 101] ++ tail [k.time]).length ≤ 100 := by
    have := tail_big (zs := [k.time]) (fun z hz => by rw [List.mem_singleton] at hz; subst hz; exact hs.tm)
    simp only [List.length_append, List.length_cons, List.length_nil] at this ⊢
    omega
  obtain ⟨D0, hD0⟩ : ∃ D, D = ([116, 105, 109, 101] ++ tail [k.time] : List UInt8) := ⟨_, rfl⟩
  rw [← hD0] at q1 hl0
  have HD0 : Hid (D0 ++ [10] = sxR k 0) := by show _ = _; rw [sxR_zero, hD0]; rfl
  clear hD0 h hs
  go_enter Tryz.func28, Tryz.ntmps28
  go_upto_region 3 with (go_at_call 39; refine q1.mono ?_; rintro e w1 ⟨rfl, b1⟩; clear q1)
  have hb1 : Below w.heap.size w w1 := ((Below.refl _ w).alloc (Nat.le_refl _) (.cells #[.int .i64 k.time] 3)).trans (b1.mono (by simp))
  go_loopw [3, 4] (fun s i wr => ∃ j : Nat, j ≤ k.rooms.length ∧ i = .int .i64 j ∧ s = .string ⟨(sxR k j).toArray⟩ ∧ Below w.heap.size w wr) (fun _ i _ => k.rooms.length - (intOf i).toNat)
  case atStart => exact ⟨0, Nat.zero_le _, rfl, by rw [← HD0.out]; exact congrArg Value.string (ba_app D0 [10]), hb1⟩
  case round =>
  clear hb1 b1 HD0 hl0 c6
  obtain ⟨j, hj, rfl, rfl, hb⟩ := hrel
  generalize wr = WR at *
  have D := H.out.all hb
  have c4 := D.c4
  have hTl := HLR.out j
  by_cases hjl : j < k.rooms.length
  · have hji : (j : Int) < (k.rooms.length : Int) := by omega
    obtain ⟨s, hs⟩ : ∃ s, k.rooms[j]? = some s := ⟨_, List.getElem?_eq_getElem hjl⟩
    obtain ⟨s0, s1, s2, s3, s4, s5, s6, s7⟩ := D.rooms j s hs
    have HSN : Hid (∀ n ∈ stN s, 0 ≤ n ∧ n ≤ 100000000) := HS.out.rooms s (List.mem_of_getElem? hs)
    have HN : Hid (sxR k (j + 1) = sxR k j ++ (sroomL s ++ [10])) := sxR_next hs
    obtain ⟨T, hT⟩ : ∃ T, T = sxR k j := ⟨_, rfl⟩
    rw [← hT] at hTl ⊢
    have HT : Hid (T = sxR k j) := hT
    clear hT hs D
    go_upto_region 8 with fail
    have hbx : StB (WR.alloc (.cells #[.int .i64 s.p, .int .i64 (s.c 0), .int .i64 (s.c 1), .int .i64 (s.c 2), .int .i64 (s.c 3), .int .i64 (s.c 4), .int .i64 (s.c 5), .bool s.f] 117)) WR.heap.size s := World.alloc_heap_new _ _
    have hB1 : Below WR.heap.size WR (WR.alloc (.cells #[.int .i64 s.p, .int .i64 (s.c 0), .int .i64 (s.c 1), .int .i64 (s.c 2), .int .i64 (s.c 3), .int .i64 (s.c 4), .int .i64 (s.c 5), .bool s.f] 117)) := (Below.refl _ _).alloc (Nat.le_refl _) _
    have hz1 : (WR.alloc (.cells #[.int .i64 s.p, .int .i64 (s.c 0), .int .i64 (s.c 1), .int .i64 (s.c 2), .int .i64 (s.c 3), .int .i64 (s.c 4), .int .i64 (s.c 5), .bool s.f] 117)).heap.size = WR.heap.size + 1 := by simp
    generalize WR.alloc (.cells #[.int .i64 s.p, .int .i64 (s.c 0), .int .i64 (s.c 1), .int .i64 (s.c 2), .int .i64 (s.c 3), .int .i64 (s.c 4), .int .i64 (s.c 5), .bool s.f] 117) = WB at hbx hB1 hz1 ⊢
    have hown0 : (WB.alloc (.cells #[.int .i64 s.p] 3)).ownsRow (WR.heap.size + 1) 3 1 (.slice (some ⟨WR.heap.size + 1, 0, none⟩) 1 1) 1 ([s.p].map (Value.int .i64)) := by
      have := World.ownsRow_lit (base := WR.heap.size + 1) (e := 3) (size := 1) WB #[.int .i64 s.p] 1 (by omega) (by have : maxLen = 9223372036854775807 := rfl; omega) rfl
      rw [hz1] at this
      exact this
    have hbx2 : StB (WB.alloc (.cells #[.int .i64 s.p] 3)) WR.heap.size s := (Below.heap_alloc _ _ _ (by omega)).trans hbx
    have hB2 : Below WR.heap.size WR (WB.alloc (.cells #[.int .i64 s.p] 3)) := hB1.alloc (by omega) _
    clear hbx hB1 s0 s1 s2 s3 s4 s5 s6 s7
    generalize hWB : WB.alloc (.cells #[.int .i64 s.p] 3) = W2 at hown0 hbx2 hB2 ⊢
    have hz2 : W2.heap.size = WR.heap.size + 2 := by rw [← hWB]; simp [hz1]
    clear hWB
    go_loopw [6, 7] (fun l c wy => ∃ n : Nat, n ≤ 6 ∧ c = .int .i64 n ∧ wy.ownsRow (WR.heap.size + 1) 3 1 l (n + 1) (((stN s).take (n + 1)).map (Value.int .i64)) ∧ Below (WR.heap.size + 1) W2 wy) (fun _ c _ => 6 - (intOf c).toNat)
    case atStart => exact ⟨0, Nat.zero_le _, rfl, hown0, Below.refl _ _⟩
    case round =>
    obtain ⟨n, hn, rfl, hown, hbi⟩ := hrel
    have hbx3 : StB wr WR.heap.size s := (hbi.block _ (by omega)).trans hbx2
    have hsz := hbi.size
    have HBW : Hid (Below w.heap.size w W2) := hb.trans (hB2.mono hb.size)
    have HOW : Hid (wr.ownsRow (WR.heap.size + 1) 3 1 u6 (n + 1) (((stN s).take (n + 1)).map (Value.int .i64)) ∧ Below (WR.heap.size + 1) W2 wr) := ⟨hown, hbi⟩
    have hsW := hb.size
    by_cases hn6 : n < 6
    · have hni : (n : Int) < 6 := by omega
      have hcell := stb_cell hbx3 hn6
      obtain ⟨v9, w9, hra, hown9, hgr9⟩ := append_int hown (s.c n) (by omega) (by omega) 41
      have HR : Hid (w9.ownsRow (WR.heap.size + 1) 3 1 v9 (n + 1 + 1) (((stN s).take (n + 1 + 1)).map (Value.int .i64)) ∧ Below (WR.heap.size + 1) W2 w9) := by
        refine ⟨by rw [stN_take s hn6]; exact hown9, (hbi.alloc (by omega) _).grown hgr9 (by simp; omega) (fun q hq => (hown.lt q hq).1)⟩
      obtain ⟨g9, n9, c9, rfl⟩ := own_form hown9
      obtain ⟨la, ln, lc, hu6⟩ := own_form hown
      clear hown9 hgr9 hown hbi hbx3 hbx2 hown0 HOW
      subst hu6
      go_wp2_with (at_builtin; refine wpList_append_eq rfl _ _ 41 rfl (.slice la ln lc) (.slice (some ⟨wr.heap.size, 0, none⟩) 1 1) rfl rfl (.slice g9 n9 c9) w9 hra ?_)
      go_roundw
      case rel => exact ⟨n + 1, by omega, by go_num, HR.out.1, HR.out.2⟩
      case measure => simp [intOf]; omega
    · obtain rfl : n = 6 := by omega
      obtain ⟨_, _, _, _, _, _, _, f7⟩ := hbx3.cs
      simp only [Nat.zero_add] at f7
      obtain ⟨z, hz⟩ : ∃ z : Int, z = if s.f = true then 1 else 0 := ⟨_, rfl⟩
      have hza : (stN s).take 7 ++ [z] = stN s := by rw [hz]; exact (stN_all s).symm
      obtain ⟨v9, w9, hra, hown9, hgr9⟩ := append_int hown z (by omega) (by omega) 41
      have hI : Ints w9 v9 (stN s) := ints_of_own (base := WR.heap.size + 1) (by rw [← hza]; exact hown9)
      have hb9 : Below w.heap.size w w9 := HBW.out.trans (((hbi.alloc (by omega) _).grown hgr9 (by simp; omega) (fun q hq => (hown.lt q hq).1)).mono (by omega))
      have q2 := row_any [114, 111, 111, 109] v9 (stN s) w9 hI HSN.out (by simp [stN])
      have hl1 : ([114, 111, 111, 109] ++ tail (stN s)).length ≤ 200 := by
        have := tail_big HSN.out
        simp only [stN, List.length_append, List.length_cons, List.length_nil] at this ⊢
        omega
      obtain ⟨D, hD⟩ : ∃ D, D = ([114, 111, 111, 109] ++ tail (stN s) : List UInt8) := ⟨_, rfl⟩
      rw [← hD] at q2 hl1
      have HD : Hid (D = sroomL s) := hD
      obtain ⟨g9, n9, c9, rfl⟩ := own_form hown9
      obtain ⟨la, ln, lc, hu6⟩ := own_form hown
      clear hown9 hgr9 hown hbi hbx3 hbx2 hown0 HOW hI hza hD hn6 hn
      subst hu6
      cases hf : s.f with
      | true =>
        rw [hf] at f7 hz
        simp only [if_true] at hz
        subst hz
        clear hf
        go_wp2_with (first | (at_builtin; refine wpList_append_eq rfl _ _ 41 rfl (.slice la ln lc) (.slice (some ⟨wr.heap.size, 0, none⟩) 1 1) rfl rfl (.slice g9 n9 c9) w9 hra ?_) | (go_at_call 39; refine q2.mono ?_; rintro e w10 ⟨rfl, b10⟩; clear q2))
        go_roundw
        case rel =>
          refine ⟨j + 1, by omega, by go_num, ?_, hb9.trans (b10.mono hb9.size)⟩
          rw [HN.out, ← HT.out, ← HD.out]
          exact congrArg Value.string (ba_app3 T D [10])
        case measure => simp [intOf]; omega
      | false =>
        rw [hf] at f7 hz
        simp only [Bool.false_eq_true, if_false] at hz
        subst hz
        clear hf
        go_wp2_with (first | (at_builtin; refine wpList_append_eq rfl _ _ 41 rfl (.slice la ln lc) (.slice (some ⟨wr.heap.size, 0, none⟩) 1 1) rfl rfl (.slice g9 n9 c9) w9 hra ?_) | (go_at_call 39; refine q2.mono ?_; rintro e w10 ⟨rfl, b10⟩; clear q2))
        go_roundw
        case rel =>
          refine ⟨j + 1, by omega, by go_num, ?_, hb9.trans (b10.mono hb9.size)⟩
          rw [HN.out, ← HT.out, ← HD.out]
          exact congrArg Value.string (ba_app3 T D [10])
        case measure => simp [intOf]; omega
  obtain rfl : j = k.rooms.length := by omega
  have hji : decide ((k.rooms.length : Int) < (k.rooms.length : Int)) = false := decide_eq_false (by omega)
  rw [← sxW_zero]
  clear hTl
  go_upto_region 16 with fail
  go_loopw [3, 8] (fun s i wr => ∃ j : Nat, j ≤ k.lines.length ∧ i = .int .i64 j ∧ s = .string ⟨(sxW k j).toArray⟩ ∧ Below w.heap.size w wr) (fun _ i _ => k.lines.length - (intOf i).toNat)
  case atStart => exact ⟨0, Nat.zero_le _, rfl, rfl, hb⟩
  case round =>
  clear hb c4 D hji hjl hj
  obtain ⟨j, hj, rfl, rfl, hb⟩ := hrel
  have D := H.out.all hb
  have hTl := HLW.out j
  have c5 := D.c5
  by_cases hjl : j < k.lines.length
  · have hji : (j : Int) < (k.lines.length : Int) := by omega
    obtain ⟨l, hl⟩ : ∃ l, k.lines[j]? = some l := ⟨_, List.getElem?_eq_getElem hjl⟩
    obtain ⟨b, hbb⟩ : ∃ b, a.bs[j]? = some b := ⟨_, List.getElem?_eq_getElem (by rw [D.bl]; exact hjl)⟩
    obtain ⟨u, hu⟩ : ∃ u, a.us[j]? = some u := ⟨_, List.getElem?_eq_getElem (by rw [D.ul]; exact hjl)⟩
    have hptr := D.ptr j b hbb
    have hln := D.line j l b u hl hbb hu
    obtain ⟨cap, hlv⟩ : ∃ cap, a.lv = .slice (some ⟨a.lr, 0, none⟩) k.lines.length cap := by
      rcases D.lv with ⟨h0, _⟩ | ⟨cap, h1, _⟩
      · rw [h0] at hjl
        cases hjl
      · exact ⟨cap, h1⟩
    rw [hlv] at c5
    have HSN : Hid (∀ n ∈ l.ls :: l.xs, 0 ≤ n ∧ n ≤ 100000000) := HS.out.lines l (List.mem_of_getElem? hl)
    have hdp := HS.out.deep l (List.mem_of_getElem? hl)
    have HN : Hid (sxW k (j + 1) = sxW k j ++ (swireL l ++ [10])) := sxW_next hl
    obtain ⟨T, hT⟩ : ∃ T, T = sxW k j := ⟨_, rfl⟩
    rw [← hT] at hTl ⊢
    have HT : Hid (T = sxW k j) := hT
    have hB1 : Below wr.heap.size wr (wr.alloc (.cells #[.int .i64 l.ls] 3)) := (Below.refl _ _).alloc (Nat.le_refl _) _
    have hown0 : (wr.alloc (.cells #[.int .i64 l.ls] 3)).ownsRow wr.heap.size 3 1 (.slice (some ⟨wr.heap.size, 0, none⟩) 1 1) 1 ([l.ls].map (Value.int .i64)) := World.ownsRow_lit (base := wr.heap.size) (e := 3) (size := 1) wr #[.int .i64 l.ls] 1 (Nat.le_refl _) (by have : maxLen = 9223372036854775807 := rfl; omega) rfl
    have hrd : Rd (wr.alloc (.cells #[.int .i64 l.ls] 3)) u l.xs := hln.rd.block (fun q hq _ => hB1.block q hq) hB1.size
    obtain ⟨v9, w9, hra, hown9, hgr9⟩ := append_rd hown0 hrd (by omega) (by simp) 41
    have hI : Ints w9 v9 (l.ls :: l.xs) := ints_of_own (base := wr.heap.size) (by
      rw [List.length_cons, List.map_cons, Nat.add_comm]
      exact hown9)
    have hb9 : Below w.heap.size w w9 := hb.trans ((hB1.grown hgr9 hB1.size (fun q hq => (hown0.lt q hq).1)).mono hb.size)
    have q2 := row_any [119, 105, 114, 101] v9 (l.ls :: l.xs) w9 hI HSN.out (by simp; omega)
    have hl1 : ([119, 105, 114, 101] ++ tail (l.ls :: l.xs)).length ≤ 200 := by
      have := tail_big HSN.out
      simp only [List.length_append, List.length_cons, List.length_nil] at this ⊢
      omega
    obtain ⟨D1, hD⟩ : ∃ D, D = ([119, 105, 114, 101] ++ tail (l.ls :: l.xs) : List UInt8) := ⟨_, rfl⟩
    rw [← hD] at q2 hl1
    have HD : Hid (D1 = swireL l) := hD
    obtain ⟨_, _, k4, k5, _, _⟩ := hln.c
    obtain ⟨g9, n9, c9, rfl⟩ := own_form hown9
    obtain ⟨ua, uc, rfl⟩ := hrd.form
    have e5 := (hB1.cell (p := ⟨a.kb, 5, none⟩) (wlt c5)).trans c5
    have ep := (hB1.cell (p := ⟨a.lr, j, none⟩) (wlt hptr)).trans hptr
    have e4 := (hB1.cell (p := ⟨b, 4, none⟩) (wlt k4)).trans k4
    clear hown9 hgr9 hown0 hrd hI hD hT hl hu hbb hlv D hln
    go_upto_region 19 with fail
    generalize wr.alloc (.cells #[.int .i64 l.ls] 3) = W1 at hra e5 ep e4 hB1 ⊢
    clear k4 k5 c5 hptr
    go_wp2_with (first | (at_builtin; refine wpList_append_eq rfl _ _ 41 rfl (.slice (some ⟨wr.heap.size, 0, none⟩) 1 1) (.slice ua l.xs.length uc) rfl rfl (.slice g9 n9 c9) w9 hra ?_) | (go_at_call 39; refine q2.mono ?_; rintro e w10 ⟨rfl, b10⟩; clear q2))
    go_roundw
    case rel =>
      refine ⟨j + 1, by omega, by go_num, ?_, hb9.trans (b10.mono hb9.size)⟩
      rw [HN.out, ← HT.out, ← HD.out]
      exact congrArg Value.string (ba_app3 T D1 [10])
    case measure => simp [intOf]; omega
  obtain rfl : j = k.lines.length := by omega
  have hji : decide ((k.lines.length : Int) < (k.lines.length : Int)) = false := decide_eq_false (by omega)
  obtain ⟨la, lc, hlv⟩ : ∃ la lc, a.lv = .slice la k.lines.length lc := by
    rcases D.lv with ⟨h0, h1⟩ | ⟨cap, h1, _⟩
    · rw [h0]
      exact ⟨_, _, h1⟩
    · exact ⟨_, _, h1⟩
  rw [hlv] at c5
  rw [sxW_all]
  obtain ⟨B, hB⟩ : ∃ B, B = snB k := ⟨_, rfl⟩
  rw [← hB]
  have HB : Hid (B = snB k) := hB
  clear D hTl hlv hB
  go_wp2
  go_ret
  exact ⟨ret_str HB.out, hb⟩
end Go.Proofs.YtfconbblnmbnpahGreatDoor
