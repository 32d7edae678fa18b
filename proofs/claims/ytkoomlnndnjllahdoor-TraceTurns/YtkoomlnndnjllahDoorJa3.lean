/-
  TcChk, TcOf: joined into one text.
-/
import Derived.Test.YtkoomlnndnjllahDoorTcFlt
import Derived.Deep.RegionWith
import Derived.Deep.CutRange
import Derived.RangeFuncNested
import Derived.Test.YtkoomlnndnjllahDoorJa2
import Derived.Test.YtkoomlnndnjllahDoorJa1
namespace Go.Proofs.YtkoomlnndnjllahDoor
open Go.RowKit

set_option maxRecDepth 100000 in
set_option maxHeartbeats 1000000 in
theorem evwrong_yes (a b c d : Int) (w : World) (h : evBad (a, b, c, d) ≠ 0) : Calls Tryd.prog 28 #[.agg #[.int .i64 a, .int .i64 b, .int .i64 c, .int .i64 d]] w fun x w' => x = .returned (.bool true) ∧ Below w.heap.size w w' := by
  have q := fault_any a b c d (w.alloc (.cells #[.int .i64 a, .int .i64 b, .int .i64 c, .int .i64 d] 52))
  rw [wErr_not h] at q
  generalize evBad (a, b, c, d) = z at q
  clear h
  go_enter Tryd.func28, Tryd.ntmps28
  go_wp2_with (go_at_call 29; refine q.mono ?_; rintro e w1 ⟨rfl, b1⟩; clear q)
  go_ret
  exact ⟨rfl, ((Below.refl _ _).alloc (Nat.le_refl _) _).trans (b1.mono (by simp))⟩
set_option maxRecDepth 100000 in
set_option maxHeartbeats 1000000 in
theorem evwrong_no (a b c d : Int) (w : World) (h : evBad (a, b, c, d) = 0) : Calls Tryd.prog 28 #[.agg #[.int .i64 a, .int .i64 b, .int .i64 c, .int .i64 d]] w fun x w' => x = .returned (.bool false) ∧ Below w.heap.size w w' := by
  have q := fault_any a b c d (w.alloc (.cells #[.int .i64 a, .int .i64 b, .int .i64 c, .int .i64 d] 52))
  rw [h, show wErr 0 = .nilIface from rfl] at q
  clear h
  go_enter Tryd.func28, Tryd.ntmps28
  go_wp2_with (go_at_call 29; refine q.mono ?_; rintro e w1 ⟨rfl, b1⟩; clear q)
  go_ret
  exact ⟨rfl, ((Below.refl _ _).alloc (Nat.le_refl _) _).trans (b1.mono (by simp))⟩
theorem evScan_at : ∀ {l : List W4} {k : Nat} {x : W4}, (∀ (j : Nat) y, j < k → l[j]? = some y → evBad y = 0) → l[k]? = some x → evBad x ≠ 0 → evScan l = evBad x
  | [], _, _, _, h, _ => by simp at h
  | e :: l, 0, x, _, h, hx => by
    simp at h
    subst h
    unfold evScan
    rw [if_neg hx]
  | e :: l, k + 1, x, ha, h, hx => by
    have h0 := ha 0 e (Nat.zero_lt_succ _) rfl
    unfold evScan
    rw [if_pos h0]
    exact evScan_at (k := k) (fun j y hj hy => ha (j + 1) y (by omega) (by simpa using hy)) (by simpa using h) hx
theorem evScan_none {l : List W4} (h : ∀ (j : Nat) y, j < l.length → l[j]? = some y → evBad y = 0) : evScan l = 0 := by
  rw [evScan_zero]
  intro e he
  obtain ⟨j, hj, rfl⟩ := List.mem_iff_getElem.1 he
  exact h j _ hj (List.getElem?_eq_getElem hj)
set_option maxRecDepth 100000 in
set_option maxHeartbeats 2000000 in
theorem evindex_any (l : List W4) (v : Value) (w : World) (hl : Wrs w v l) (hlen : l.length ≤ 2000) :
    Calls Tryd.prog 30 #[v, .func (.func 28) #[] #[]] w fun e w' =>
      (∃ r : Int, e = .returned (.int .i64 r) ∧ ((r = -1 ∧ evScan l = 0) ∨ ∃ (k : Nat) (x : W4), r = k ∧ l[k]? = some x ∧ evBad x ≠ 0 ∧ evScan l = evBad x)) ∧ Below w.heap.size w w' := by
  obtain ⟨ao, cap, rfl⟩ := hl.form
  have HL : Hid (Wrs w (.slice ao l.length cap) l) := hl
  clear hl
  go_enter Tryd.func30, Tryd.ntmps30
  go_wp2
  go_loopw [8] (fun i wr => ∃ k : Nat, k ≤ l.length ∧ i = .int .i64 k ∧ Hid (∀ (j : Nat) y, j < k → l[j]? = some y → evBad y = 0) ∧ Below w.heap.size w wr) (fun i _ => l.length - (intOf i).toNat)
  case atStart => exact ⟨0, Nat.zero_le _, rfl, fun j x hj => by omega, Below.refl _ _⟩
  case round =>
    obtain ⟨k, hk, rfl, HS, hb⟩ := hrel
    by_cases hkl : k < l.length
    · obtain ⟨b, off, f, t, kd, d, rfl, hlt, hx, c0, c1, c2, c3⟩ := HL.out.at hkl
      have HX : Hid (l[k]? = some (f, t, kd, d)) := hx
      replace c0 := (hb.cell (p := ⟨b, _, none⟩) hlt).trans c0
      replace c1 := (hb.cell (p := ⟨b, _, none⟩) hlt).trans c1
      replace c2 := (hb.cell (p := ⟨b, _, none⟩) hlt).trans c2
      replace c3 := (hb.cell (p := ⟨b, _, none⟩) hlt).trans c3
      clear hx
      by_cases hz : evBad (f, t, kd, d) = 0
      · have HZ : Hid (evBad (f, t, kd, d) = 0) := hz
        have q := fun W => evwrong_no f t kd d W hz
        clear hz
        go_wp2_with (go_at_call 28; refine (q _).mono ?_; rintro e w1 ⟨rfl, b1⟩; clear q)
        go_roundw
        case rel =>
          refine ⟨k + 1, by omega, by go_num, fun j y hj hy => ?_, hb.trans (b1.mono hb.size)⟩
          by_cases hjk : j < k
          · exact HS.out j y hjk hy
          · obtain rfl : j = k := by omega
            rw [HX.out] at hy
            obtain rfl := Option.some.inj hy
            exact HZ.out
        case measure => simp [intOf]; omega
      · have HZ : Hid (evBad (f, t, kd, d) ≠ 0) := hz
        have q := fun W => evwrong_yes f t kd d W hz
        clear hz
        go_wp2_with (go_at_call 28; refine (q _).mono ?_; rintro e w1 ⟨rfl, b1⟩; clear q)
        go_ret
        exact ⟨⟨_, rfl, Or.inr ⟨k, _, rfl, HX.out, HZ.out, evScan_at HS.out HX.out HZ.out⟩⟩, hb.trans (b1.mono hb.size)⟩
    · obtain rfl : k = l.length := by omega
      have HF : Hid (evScan l = 0) := evScan_none HS.out
      clear HL
      go_wp2
      go_ret
      exact ⟨⟨_, rfl, Or.inl ⟨rfl, HF.out⟩⟩, hb⟩
set_option maxRecDepth 100000 in
set_option maxHeartbeats 2000000 in
theorem evcheck_any (l : List W4) (v : Value) (w : World) (hl : Wrs w v l) :
    Calls Tryd.prog 17 #[v] w fun e w' => e = .returned (wErr (evchk l)) ∧ Below w.heap.size w w' := by
  obtain ⟨ao, cap, rfl⟩ := hl.form
  by_cases h : 2000 < l.length
  · have HF : Hid (evchk l = 4) := by show _ = _; unfold evchk; rw [if_pos h]
    have hi : (2000 : Int) < (l.length : Int) := by omega
    clear hl
    go_enter Tryd.func17, Tryd.ntmps17
    go_wp2
    go_ret
    rw [HF.out]
    exact ⟨rfl, Below.refl _ _⟩
  · have HF : Hid (evchk l = evScan l) := by show _ = _; unfold evchk; rw [if_neg h]
    have hi : decide ((2000 : Int) < (l.length : Int)) = false := by simp; omega
    have hn : decide (2000 < l.length) = false := by simp; omega
    have q := evindex_any l _ w hl (by omega)
    have HL : Hid (Wrs w (.slice ao l.length cap) l) := hl
    clear hl
    go_enter Tryd.func17, Tryd.ntmps17
    go_upto_region 5 with (go_at_call 30; refine q.mono ?_; rintro e w1 ⟨⟨r, rfl, hr⟩, b1⟩; clear q)
    rcases hr with ⟨rfl, h0⟩ | ⟨k, ⟨x0, x1, x2, x3⟩, rfl, hx, hne, hs⟩
    · have H0 : Hid (evScan l = 0) := h0
      clear h0
      go_wp2
      go_ret
      rw [HF.out, H0.out]
      exact ⟨rfl, b1⟩
    · have hkl : k < l.length := (List.getElem?_eq_some_iff.1 hx).1
      have H0 : Hid (evScan l = evBad (x0, x1, x2, x3)) := hs
      obtain ⟨b, off, f, t, kd, d, rfl, hlt, hx2, c0, c1, c2, c3⟩ := HL.out.at hkl
      rw [hx2] at hx
      obtain ⟨rfl, rfl, rfl, rfl⟩ : f = x0 ∧ t = x1 ∧ kd = x2 ∧ d = x3 := by simpa using hx
      replace c0 := (b1.cell (p := ⟨b, _, none⟩) hlt).trans c0
      replace c1 := (b1.cell (p := ⟨b, _, none⟩) hlt).trans c1
      replace c2 := (b1.cell (p := ⟨b, _, none⟩) hlt).trans c2
      replace c3 := (b1.cell (p := ⟨b, _, none⟩) hlt).trans c3
      have hki : (k : Int) < (l.length : Int) := by omega
      have q2 := fun W => fault_any f t kd d W
      clear hx hx2 hs hne
      go_wp2_with (go_at_call 29; refine (q2 _).mono ?_; rintro e w2 ⟨rfl, b2⟩; clear q2)
      go_ret
      rw [HF.out, H0.out]
      exact ⟨rfl, b1.trans (b2.mono b1.size)⟩
end Go.Proofs.YtkoomlnndnjllahDoor
namespace Go.Proofs.YtkoomlnndnjllahDoor
open Go.RowKit

theorem ofR_next {l : List W4} {k : Nat} {e : W4} (h : l[k]? = some e) (r : Int) : ofR (l.take (k + 1)) r = if e.2.1 = r then ofR (l.take k) r ++ [e] else ofR (l.take k) r := by
  obtain ⟨hk, rfl⟩ := List.getElem?_eq_some_iff.1 h
  rw [List.take_succ_eq_append_getElem hk]
  unfold ofR
  rw [List.filter_append]
  by_cases h2 : (l[k]).2.1 = r
  · rw [if_pos h2]; simp [h2]
  · rw [if_neg h2]; simp [h2]
theorem ofR_take_le (l : List W4) (k : Nat) (r : Int) : (ofR (l.take k) r).length ≤ l.length := by
  unfold ofR
  have h1 := List.length_filter_le (fun e : W4 => decide (e.2.1 = r)) (l.take k)
  have h2 : (l.take k).length ≤ l.length := by simp; omega
  omega
set_option maxRecDepth 100000 in
set_option maxHeartbeats 2000000 in
theorem tof_wrong (l : List W4) (v : Value) (r : Int) (w : World) (hl : Wrs w v l) (h0 : evchk l ≠ 0) :
    Calls Tryd.prog 8 #[v, .int .i64 r] w fun e w' => e = .returned (.tuple #[.slice none 0 0, wErr (evchk l)]) ∧ Below w.heap.size w w' := by
  have q := evcheck_any l v w hl
  rw [wErr_not h0] at q ⊢
  generalize evchk l = z at q ⊢
  clear hl h0
  go_enter Tryd.func8, Tryd.ntmps8
  go_wp2_with (go_at_call 17; refine q.mono ?_; rintro e w1 ⟨rfl, b1⟩; clear q)
  go_ret2
  exact ⟨rfl, b1⟩
set_option maxRecDepth 100000 in
set_option maxHeartbeats 2000000 in
theorem tof_room (l : List W4) (v : Value) (r : Int) (w : World) (hl : Wrs w v l) (h0 : evchk l = 0) (hr : r < -1 ∨ 4 < r) :
    Calls Tryd.prog 8 #[v, .int .i64 r] w fun e w' => e = .returned (.tuple #[.slice none 0 0, wErr 1]) ∧ Below w.heap.size w w' := by
  have q := evcheck_any l v w hl
  rw [h0, show wErr 0 = .nilIface from rfl] at q
  have hwi : wiB r (-1) 4 = false := by
    unfold wiB
    rcases hr with h | h
    · rw [decide_eq_false (show ¬ -1 ≤ r by omega)]; rfl
    · rw [decide_eq_false (show ¬ r ≤ 4 by omega)]; simp
  have q2 := fun w => trroom_of hwi w
  clear hl h0 hr hwi
  go_enter Tryd.func8, Tryd.ntmps8
  go_wp2_with (first | (go_at_call 17; refine q.mono ?_; rintro e w1 ⟨rfl, b1⟩; clear q) | (go_at_call 18; refine (q2 _).mono ?_; rintro e w2 ⟨rfl, hw2⟩; obtain rfl := hw2.symm))
  go_ret2
  exact ⟨rfl, b1⟩
set_option maxRecDepth 100000 in
set_option maxHeartbeats 4000000 in
theorem tof_ok (l : List W4) (v : Value) (r : Int) (w : World) (hl : Wrs w v l) (h0 : evchk l = 0) (hr : -1 ≤ r ∧ r ≤ 4) :
    Calls Tryd.prog 8 #[v, .int .i64 r] w fun e w' => ∃ u, e = .returned (.tuple #[u, .nilIface]) ∧ Wrs w' u (ofR l r) ∧ Below w.heap.size w w' := by
  obtain ⟨jj, hj, hy0, hy1, hy2⟩ := info_parts infoEv
  have q := evcheck_any l v w hl
  rw [h0, show wErr 0 = .nilIface from rfl] at q
  have hwi : wiB r (-1) 4 = true := by
    unfold wiB
    rw [decide_eq_true (show -1 ≤ r by omega), decide_eq_true (show r ≤ 4 by omega)]; rfl
  have q2 := fun w => trroom_of hwi w
  have hlen := (evchk_zero.1 h0).1
  obtain ⟨ao, cap, rfl⟩ := hl.form
  have HL : Hid (Wrs w (.slice ao l.length cap) l) := hl
  clear hl h0 hr hwi
  go_enter Tryd.func8, Tryd.ntmps8
  go_wp2_with (first | (go_at_call 17; refine q.mono ?_; rintro e w1 ⟨rfl, b1⟩; clear q) | (go_at_call 18; refine (q2 _).mono ?_; rintro e w2 ⟨rfl, hw2⟩; obtain rfl := hw2.symm))
  clear q2
  go_loopw [7, 21] (fun v i wr => ∃ k : Nat, k ≤ l.length ∧ i = .int .i64 k ∧ Hid (wr.ownsRow w1.heap.size 52 4 v (ofR (l.take k) r).length (wrCells (ofR (l.take k) r))) ∧ Below w.heap.size w wr ∧ w1.heap.size ≤ wr.heap.size) (fun _ i _ => l.length - (intOf i).toNat)
  case atStart => exact ⟨0, Nat.zero_le _, rfl, World.ownsRow_nil _ _ _ _, b1, Nat.le_refl _⟩
  case round =>
    obtain ⟨k, hk, rfl, HO, hb, hsz⟩ := hrel
    obtain ⟨vo, vk, hvf⟩ := own4_form HO.out
    subst hvf
    have hb1 := b1.size
    by_cases hkl : k < l.length
    · obtain ⟨b, off, x0, x1, x2, x3, rfl, hlt, hx, c0, c1, c2, c3⟩ := HL.out.at hkl
      have HX : Hid (l[k]? = some (x0, x1, x2, x3)) := hx
      replace c0 := (hb.cell (p := ⟨b, _, none⟩) hlt).trans c0
      replace c1 := (hb.cell (p := ⟨b, _, none⟩) hlt).trans c1
      replace c2 := (hb.cell (p := ⟨b, _, none⟩) hlt).trans c2
      replace c3 := (hb.cell (p := ⟨b, _, none⟩) hlt).trans c3
      have hle := ofR_take_le l k r
      have HN := ofR_next hx r
      have ba : Below w.heap.size w (wr.alloc (.cells #[.int .i64 x0, .int .i64 x1, .int .i64 x2, .int .i64 x3] 52)) := hb.alloc hb.size _
      clear hx
      by_cases hz : x1 = r
      · have HE : Hid (ofR (l.take (k + 1)) r = ofR (l.take k) r ++ [(x0, x1, x2, x3)]) := by show _ = _; rw [HN, if_pos hz]
        have hbq : (x1 == r) = true := by simpa using hz
        have own3 := HO.out
        obtain ⟨L, hL⟩ : ∃ L, ofR (l.take k) r = L := ⟨_, rfl⟩
        rw [hL] at own3 HE hle ⊢
        clear HN hz HO hL
        go_wp2_with (at_builtin; refine wpList_append_at _ rfl _ _ 35 rfl w1.heap.size 52 jj _ 4 32 Tryd.underlying35 hj hy0 hy1 hy2 rfl (by decide) _ _ _ rfl ((own3.alloc _).alloc _) ⟨wr.heap.size + 1, 0, none⟩ 1 1 [.int .i64 x0, .int .i64 x1, .int .i64 x2, .int .i64 x3] rfl rfl ?c1A ?c2A ?c3A ?c4A ?c5A ?_)
        case c1A => exact wr_new (by simp) _ _ _ _ _
        case c2A => exact four_one _ _ _ _
        case c3A => unfold maxLen; omega
        case c4A => omega
        case c5A => simp; omega
        intro v1 w8 own8 hg8 hnw8
        have B8 : Below w.heap.size w w8 := (ba.alloc (by simp; have := hb.size; omega) _).grown hg8 (by simp; have := hb.size; omega) (fun g hg => Nat.le_trans hb1 (own3.lt g hg).1)
        have S8 : w1.heap.size ≤ w8.heap.size := Nat.le_trans (by simp; omega) hg8.size
        have O8 : Hid (w8.ownsRow w1.heap.size 52 4 v1 (ofR (l.take (k + 1)) r).length (wrCells (ofR (l.take (k + 1)) r))) := by
          show World.ownsRow _ _ _ _ _ _ _
          rw [HE.out, wrCells_snoc, List.length_append]
          exact own8
        clear own8 hg8 hnw8 own3
        go_wp2
        go_roundw
        case rel => exact ⟨k + 1, by omega, by go_num, O8, B8, S8⟩
        case measure => simp [intOf]; omega
      · have HE : Hid (ofR (l.take (k + 1)) r = ofR (l.take k) r) := by show _ = _; rw [HN, if_neg hz]
        have hbq : (x1 == r) = false := by simpa using hz
        have O8 : Hid ((wr.alloc (.cells #[.int .i64 x0, .int .i64 x1, .int .i64 x2, .int .i64 x3] 52)).ownsRow w1.heap.size 52 4 (.slice vo (ofR (l.take k) r).length vk) (ofR (l.take (k + 1)) r).length (wrCells (ofR (l.take (k + 1)) r))) := by
          show World.ownsRow _ _ _ _ _ _ _
          rw [HE.out]
          exact HO.out.alloc _
        have S8 : w1.heap.size ≤ (wr.alloc (.cells #[.int .i64 x0, .int .i64 x1, .int .i64 x2, .int .i64 x3] 52)).heap.size := by simp; omega
        obtain ⟨L, hL⟩ : ∃ L, ofR (l.take k) r = L := ⟨_, rfl⟩
        rw [hL] at O8 ⊢
        clear HN hz HO hL
        go_wp2
        go_roundw
        case rel => exact ⟨k + 1, by omega, by go_num, O8, ba, S8⟩
        case measure => simp [intOf]; omega
    · obtain rfl : k = l.length := by omega
      have HS : Hid (Wrs wr (.slice vo (ofR (l.take l.length) r).length vk) (ofR l r)) := by
        have := evs_of_own HO.out
        rw [List.take_length] at this ⊢
        exact this
      obtain ⟨L, hL⟩ : ∃ L, ofR (l.take l.length) r = L := ⟨_, rfl⟩
      rw [hL] at HS ⊢
      clear HO HL hL
      go_wp2
      go_ret2
      exact ⟨_, rfl, HS.out, hb⟩
/-- Of does what the laws of traces ask of it. -/
theorem trc_of (G : World → Prop) : TrcOf G := fun l v r W _ hl => by
  by_cases h0 : evchk l = 0
  · by_cases hr : r < -1 ∨ 4 < r
    · have he : ofE l r = 1 := by unfold ofE; rw [if_pos h0, if_pos hr]
      unfold ofV
      rw [he]
      refine (tof_room l v r W hl h0 hr).mono ?_
      rintro e w' ⟨rfl, hb⟩
      exact ⟨_, rfl, Or.inl ⟨rfl, _, _, rfl⟩, hb⟩
    · have he : ofE l r = 0 := by unfold ofE; rw [if_pos h0, if_neg hr]
      unfold ofV
      rw [he, if_pos rfl]
      exact tof_ok l v r W hl h0 (by omega)
  · have he : ofE l r = evchk l := by unfold ofE; rw [if_neg h0]
    unfold ofV
    rw [he, if_neg h0]
    refine (tof_wrong l v r W hl h0).mono ?_
    rintro e w' ⟨rfl, hb⟩
    exact ⟨_, rfl, Or.inl ⟨rfl, _, _, rfl⟩, hb⟩
end Go.Proofs.YtkoomlnndnjllahDoor
