/-
  Law, TcChk, TcOf, FCheck, FWho: joined into one text.
-/
import Derived.Test.YtfconbblnmbnpahDoorRows
import Derived.ProofKit
import Derived.LaidMore
import Derived.OpenShut
import Derived.Carry
import Derived.Stop.Joined
import Derived.Test.YtfconbblnmbnpahDoorJa3
import Derived.Deep.RegionWith
import Derived.Deep.CutRange
import Derived.RangeFuncNested
import Derived.Test.YtfconbblnmbnpahDoorJa2
import Derived.Test.YtfconbblnmbnpahDoorJa1
namespace Go.Proofs.YtfconbblnmbnpahDoor
open Go.ChangeShapes Go.WideShapes Go.ChangeAt Go.WideElems Go.RowKit

theorem own : ownKnob Tryd.prog.godebug = none := by kernel_rfl
theorem laidOut : laidOutB Tryd.prog = true := by kernel_rfl
theorem trodAll_below {H : Type} {enc : TypeId × Value → H} {P : Program} (hlo : laidOutB P = true) {W W' : World} (hb : Below W.heap.size W W') (ts : List TypeId) : ∀ {vs : List Value} {ds : List (DataW H)} {ps : List MemPlace},
    (ts.all fun t => P.readableRec t && decide (t < P.types.size)) = true → DataW.TrodAll enc P W 0 (fun _ => true) true ts vs ds ps → (∀ x ∈ ps, x.block < W.heap.size) →
    DataW.TrodAll enc P W' 0 (fun b => decide (b < W.heap.size)) true ts vs ds ps := by
  induction ts with
  | nil =>
    intro vs ds ps _ h _
    cases vs <;> cases ds <;> exact h
  | cons t ts ih =>
    intro vs ds ps ht h hl
    cases vs with
    | nil => exact h.elim
    | cons v vs =>
      cases ds with
      | nil => exact h.elim
      | cons d ds =>
        obtain ⟨p, q, h1, h2, rfl⟩ := h
        simp only [List.all_cons, Bool.and_eq_true, decide_eq_true_eq] at ht
        exact ⟨p, q, Below.trod hlo ht.1.1 ht.1.2 h1 hb (fun x hx => hl x (by simp [hx])), ih (by simpa using ht.2) h2 (fun x hx => hl x (by simp [hx])), rfl⟩

theorem law_post {H : Type} {enc : TypeId × Value → H} {f : Func} {s : ChangeSpec} {W W' : World} {args : Array Value} {ds gs : List (DataW H)} {before : List MemPlace}
    (hf : f.resultTypes = #[4]) (hts : (f.params.toList.all fun t => Tryd.prog.readableRec t && decide (t < Tryd.prog.types.size)) = true) (hsv : s.vars = [])
    (hW : DataW.Whole enc Tryd.prog f.params.toList s.vars false W args.toList ds gs before) (hs : s.fn H (ds ++ gs) = { results := [.lit (.bool true)], args := ds }) (hb : Below W.heap.size W W') :
    s.post enc Tryd.prog f false true false false W args (.bool true) W' := by
  have hW' := hW
  obtain ⟨p, q, hA, hV, rfl, hfz, hnd⟩ := hW
  have hlt : ∀ x ∈ p, x.block < W.heap.size := fun x hx => by simpa using hW'.lt x (by simp [hx])
  refine ⟨ds, gs, p ++ q, [], p, [], hW', ?_, ?_, ?_, hb.frame _, fun h => by cases h⟩
  · rw [hs, hf]
    exact trodAll_cons_mk (shut_bool Tryd.underlying4 _) trodAll_mk0
  · rw [hs]
    exact trodAll_below laidOut hb _ hts hA hlt
  · rw [hs, hsv]
    rfl
end Go.Proofs.YtfconbblnmbnpahDoor
namespace Go.Proofs.YtfconbblnmbnpahDoor
open Go.RowKit

set_option maxRecDepth 100000 in
set_option maxHeartbeats 1000000 in
theorem evwrong_yes (a b c d : Int) (w : World) (h : evBad (a, b, c, d) ≠ 0) : Calls Tryd.prog 28 #[.agg #[.int .i64 a, .int .i64 b, .int .i64 c, .int .i64 d]] w fun x w' => x = .returned (.bool true) ∧ Below w.heap.size w w' := by
  have q := fault_any a b c d (w.alloc (.cells #[.int .i64 a, .int .i64 b, .int .i64 c, .int .i64 d] 52))
  rw [wErr_not h] at q
  generalize evBad (a, b, c, d) = z at q
  clear h
  go_enter Tryd.func28, Tryd.ntmps28
  go_wp2_with (go_at_call 29; refine q.mono ?_; rintro e w1 ⟨rfl, b1⟩; clear q)
  go_ret
  exact ⟨rfl, ((Below.refl _ _).alloc (Nat.le_refl _) _).trans (b1.mono (by simp))⟩
set_option maxRecDepth 100000 in
set_option maxHeartbeats 1000000 in
theorem evwrong_no (a b c d : Int) (w : World) (h : evBad (a, b, c, d) = 0) : Calls Tryd.prog 28 #[.agg #[.int .i64 a, .int .i64 b, .int .i64 c, .int .i64 d]] w fun x w' => x = .returned (.bool false) ∧ Below w.heap.size w w' := by
  have q := fault_any a b c d (w.alloc (.cells #[.int .i64 a, .int .i64 b, .int .i64 c, .int .i64 d] 52))
  rw [h, show wErr 0 = .nilIface from rfl] at q
  clear h
  go_enter Tryd.func28, Tryd.ntmps28
  go_wp2_with (go_at_call 29; refine q.mono ?_; rintro e w1 ⟨rfl, b1⟩; clear q)
  go_ret
  exact ⟨rfl, ((Below.refl _ _).alloc (Nat.le_refl _) _).trans (b1.mono (by simp))⟩
theorem evScan_at : ∀ {l : List W4} {k : Nat} {x : W4}, (∀ (j : Nat) y, j < k → l[j]? = some y → evBad y = 0) → l[k]? = some x → evBad x ≠ 0 → evScan l = evBad x
  | [], _, _, _, h, _ => by simp at h
  | e :: l, 0, x, _, h, hx => by
    simp at h
    subst h
    unfold evScan
    rw [if_neg hx]
  | e :: l, k + 1, x, ha, h, hx => by
    have h0 := ha 0 e (Nat.zero_lt_succ _) rfl
    unfold evScan
    rw [if_pos h0]
    exact evScan_at (k := k) (fun j y hj hy => ha (j + 1) y (by omega) (by simpa using hy)) (by simpa using h) hx
theorem evScan_none {l : List W4} (h : ∀ (j : Nat) y, j < l.length → l[j]? = some y → evBad y = 0) : evScan l = 0 := by
  rw [evScan_zero]
  intro e he
  obtain ⟨j, hj, rfl⟩ := List.mem_iff_getElem.1 he
  exact h j _ hj (List.getElem?_eq_getElem hj)
set_option maxRecDepth 100000 in
set_option maxHeartbeats 2000000 in
theorem evindex_any (l : List W4) (v : Value) (w : World) (hl : Wrs w v l) (hlen : l.length ≤ 2000) :
    Calls Tryd.prog 30 #[v, .func (.func 28) #[] #[]] w fun e w' =>
      (∃ r : Int, e = .returned (.int .i64 r) ∧ ((r = -1 ∧ evScan l = 0) ∨ ∃ (k : Nat) (x : W4), r = k ∧ l[k]? = some x ∧ evBad x ≠ 0 ∧ evScan l = evBad x)) ∧ Below w.heap.size w w' := by
  obtain ⟨ao, cap, rfl⟩ := hl.form
  have HL : Hid (Wrs w (.slice ao l.length cap) l) := hl
  clear hl
  go_enter Tryd.func30, Tryd.ntmps30
  go_wp2
  go_loopw [8] (fun i wr => ∃ k : Nat, k ≤ l.length ∧ i = .int .i64 k ∧ Hid (∀ (j : Nat) y, j < k → l[j]? = some y → evBad y = 0) ∧ Below w.heap.size w wr) (fun i _ => l.length - (intOf i).toNat)
  case atStart => exact ⟨0, Nat.zero_le _, rfl, fun j x hj => by omega, Below.refl _ _⟩
  case round =>
    obtain ⟨k, hk, rfl, HS, hb⟩ := hrel
    by_cases hkl : k < l.length
    · obtain ⟨b, off, f, t, kd, d, rfl, hlt, hx, c0, c1, c2, c3⟩ := HL.out.at hkl
      have HX : Hid (l[k]? = some (f, t, kd, d)) := hx
      replace c0 := (hb.cell (p := ⟨b, _, none⟩) hlt).trans c0
      replace c1 := (hb.cell (p := ⟨b, _, none⟩) hlt).trans c1
      replace c2 := (hb.cell (p := ⟨b, _, none⟩) hlt).trans c2
      replace c3 := (hb.cell (p := ⟨b, _, none⟩) hlt).trans c3
      clear hx
      by_cases hz : evBad (f, t, kd, d) = 0
      · have HZ : Hid (evBad (f, t, kd, d) = 0) := hz
        have q := fun W => evwrong_no f t kd d W hz
        clear hz
        go_wp2_with (go_at_call 28; refine (q _).mono ?_; rintro e w1 ⟨rfl, b1⟩; clear q)
        go_roundw
        case rel =>
          refine ⟨k + 1, by omega, by go_num, fun j y hj hy => ?_, hb.trans (b1.mono hb.size)⟩
          by_cases hjk : j < k
          · exact HS.out j y hjk hy
          · obtain rfl : j = k := by omega
            rw [HX.out] at hy
            obtain rfl := Option.some.inj hy
            exact HZ.out
        case measure => simp [intOf]; omega
      · have HZ : Hid (evBad (f, t, kd, d) ≠ 0) := hz
        have q := fun W => evwrong_yes f t kd d W hz
        clear hz
        go_wp2_with (go_at_call 28; refine (q _).mono ?_; rintro e w1 ⟨rfl, b1⟩; clear q)
        go_ret
        exact ⟨⟨_, rfl, Or.inr ⟨k, _, rfl, HX.out, HZ.out, evScan_at HS.out HX.out HZ.out⟩⟩, hb.trans (b1.mono hb.size)⟩
    · obtain rfl : k = l.length := by omega
      have HF : Hid (evScan l = 0) := evScan_none HS.out
      clear HL
      go_wp2
      go_ret
      exact ⟨⟨_, rfl, Or.inl ⟨rfl, HF.out⟩⟩, hb⟩
set_option maxRecDepth 100000 in
set_option maxHeartbeats 2000000 in
theorem evcheck_any (l : List W4) (v : Value) (w : World) (hl : Wrs w v l) :
    Calls Tryd.prog 17 #[v] w fun e w' => e = .returned (wErr (evchk l)) ∧ Below w.heap.size w w' := by
  obtain ⟨ao, cap, rfl⟩ := hl.form
  by_cases h : 2000 < l.length
  · have HF : Hid (evchk l = 4) := by show _ = _; unfold evchk; rw [if_pos h]
    have hi : (2000 : Int) < (l.length : Int) := by omega
    clear hl
    go_enter Tryd.func17, Tryd.ntmps17
    go_wp2
    go_ret
    rw [HF.out]
    exact ⟨rfl, Below.refl _ _⟩
  · have HF : Hid (evchk l = evScan l) := by show _ = _; unfold evchk; rw [if_neg h]
    have hi : decide ((2000 : Int) < (l.length : Int)) = false := by simp; omega
    have hn : decide (2000 < l.length) = false := by simp; omega
    have q := evindex_any l _ w hl (by omega)
    have HL : Hid (Wrs w (.slice ao l.length cap) l) := hl
    clear hl
    go_enter Tryd.func17, Tryd.ntmps17
    go_upto_region 5 with (go_at_call 30; refine q.mono ?_; rintro e w1 ⟨⟨r, rfl, hr⟩, b1⟩; clear q)
    rcases hr with ⟨rfl, h0⟩ | ⟨k, ⟨x0, x1, x2, x3⟩, rfl, hx, hne, hs⟩
    · have H0 : Hid (evScan l = 0) := h0
      clear h0
      go_wp2
      go_ret
      rw [HF.out, H0.out]
      exact ⟨rfl, b1⟩
    · have hkl : k < l.length := (List.getElem?_eq_some_iff.1 hx).1
      have H0 : Hid (evScan l = evBad (x0, x1, x2, x3)) := hs
      obtain ⟨b, off, f, t, kd, d, rfl, hlt, hx2, c0, c1, c2, c3⟩ := HL.out.at hkl
      rw [hx2] at hx
      obtain ⟨rfl, rfl, rfl, rfl⟩ : f = x0 ∧ t = x1 ∧ kd = x2 ∧ d = x3 := by simpa using hx
      replace c0 := (b1.cell (p := ⟨b, _, none⟩) hlt).trans c0
      replace c1 := (b1.cell (p := ⟨b, _, none⟩) hlt).trans c1
      replace c2 := (b1.cell (p := ⟨b, _, none⟩) hlt).trans c2
      replace c3 := (b1.cell (p := ⟨b, _, none⟩) hlt).trans c3
      have hki : (k : Int) < (l.length : Int) := by omega
      have q2 := fun W => fault_any f t kd d W
      clear hx hx2 hs hne
      go_wp2_with (go_at_call 29; refine (q2 _).mono ?_; rintro e w2 ⟨rfl, b2⟩; clear q2)
      go_ret
      rw [HF.out, H0.out]
      exact ⟨rfl, b1.trans (b2.mono b1.size)⟩
end Go.Proofs.YtfconbblnmbnpahDoor
namespace Go.Proofs.YtfconbblnmbnpahDoor
open Go.RowKit

theorem ofR_next {l : List W4} {k : Nat} {e : W4} (h : l[k]? = some e) (r : Int) : ofR (l.take (k + 1)) r = if e.2.1 = r then ofR (l.take k) r ++ [e] else ofR (l.take k) r := by
  obtain ⟨hk, rfl⟩ := List.getElem?_eq_some_iff.1 h
  rw [List.take_succ_eq_append_getElem hk]
  unfold ofR
  rw [List.filter_append]
  by_cases h2 : (l[k]).2.1 = r
  · rw [if_pos h2]; simp [h2]
  · rw [if_neg h2]; simp [h2]
theorem ofR_take_le (l : List W4) (k : Nat) (r : Int) : (ofR (l.take k) r).length ≤ l.length := by
  unfold ofR
  have h1 := List.length_filter_le (fun e : W4 => decide (e.2.1 = r)) (l.take k)
  have h2 : (l.take k).length ≤ l.length := by simp; omega
  omega
set_option maxRecDepth 100000 in
set_option maxHeartbeats 2000000 in
theorem tof_wrong (l : List W4) (v : Value) (r : Int) (w : World) (hl : Wrs w v l) (h0 : evchk l ≠ 0) :
    Calls Tryd.prog 8 #[v, .int .i64 r] w fun e w' => e = .returned (.tuple #[.slice none 0 0, wErr (evchk l)]) ∧ Below w.heap.size w w' := by
  have q := evcheck_any l v w hl
  rw [wErr_not h0] at q ⊢
  generalize evchk l = z at q ⊢
  clear hl h0
  go_enter Tryd.func8, Tryd.ntmps8
  go_wp2_with (go_at_call 17; refine q.mono ?_; rintro e w1 ⟨rfl, b1⟩; clear q)
  go_ret2
  exact ⟨rfl, b1⟩
set_option maxRecDepth 100000 in
set_option maxHeartbeats 2000000 in
theorem tof_room (l : List W4) (v : Value) (r : Int) (w : World) (hl : Wrs w v l) (h0 : evchk l = 0) (hr : r < -1 ∨ 4 < r) :
    Calls Tryd.prog 8 #[v, .int .i64 r] w fun e w' => e = .returned (.tuple #[.slice none 0 0, wErr 1]) ∧ Below w.heap.size w w' := by
  have q := evcheck_any l v w hl
  rw [h0, show wErr 0 = .nilIface from rfl] at q
  have hwi : wiB r (-1) 4 = false := by
    unfold wiB
    rcases hr with h | h
    · rw [decide_eq_false (show ¬ -1 ≤ r by omega)]; rfl
    · rw [decide_eq_false (show ¬ r ≤ 4 by omega)]; simp
  have q2 := fun w => trroom_of hwi w
  clear hl h0 hr hwi
  go_enter Tryd.func8, Tryd.ntmps8
  go_wp2_with (first | (go_at_call 17; refine q.mono ?_; rintro e w1 ⟨rfl, b1⟩; clear q) | (go_at_call 18; refine (q2 _).mono ?_; rintro e w2 ⟨rfl, hw2⟩; obtain rfl := hw2.symm))
  go_ret2
  exact ⟨rfl, b1⟩
set_option maxRecDepth 100000 in
set_option maxHeartbeats 4000000 in
theorem tof_ok (l : List W4) (v : Value) (r : Int) (w : World) (hl : Wrs w v l) (h0 : evchk l = 0) (hr : -1 ≤ r ∧ r ≤ 4) :
    Calls Tryd.prog 8 #[v, .int .i64 r] w fun e w' => ∃ u, e = .returned (.tuple #[u, .nilIface]) ∧ Wrs w' u (ofR l r) ∧ Below w.heap.size w w' := by
  obtain ⟨jj, hj, hy0, hy1, hy2⟩ := info_parts infoEv
  have q := evcheck_any l v w hl
  rw [h0, show wErr 0 = .nilIface from rfl] at q
  have hwi : wiB r (-1) 4 = true := by
    unfold wiB
    rw [decide_eq_true (show -1 ≤ r by omega), decide_eq_true (show r ≤ 4 by omega)]; rfl
  have q2 := fun w => trroom_of hwi w
  have hlen := (evchk_zero.1 h0).1
  obtain ⟨ao, cap, rfl⟩ := hl.form
  have HL : Hid (Wrs w (.slice ao l.length cap) l) := hl
  clear hl h0 hr hwi
  go_enter Tryd.func8, Tryd.ntmps8
  go_wp2_with (first | (go_at_call 17; refine q.mono ?_; rintro e w1 ⟨rfl, b1⟩; clear q) | (go_at_call 18; refine (q2 _).mono ?_; rintro e w2 ⟨rfl, hw2⟩; obtain rfl := hw2.symm))
  clear q2
  go_loopw [7, 21] (fun v i wr => ∃ k : Nat, k ≤ l.length ∧ i = .int .i64 k ∧ Hid (wr.ownsRow w1.heap.size 52 4 v (ofR (l.take k) r).length (wrCells (ofR (l.take k) r))) ∧ Below w.heap.size w wr ∧ w1.heap.size ≤ wr.heap.size) (fun _ i _ => l.length - (intOf i).toNat)
  case atStart => exact ⟨0, Nat.zero_le _, rfl, World.ownsRow_nil _ _ _ _, b1, Nat.le_refl _⟩
  case round =>
    obtain ⟨k, hk, rfl, HO, hb, hsz⟩ := hrel
    obtain ⟨vo, vk, hvf⟩ := own4_form HO.out
    subst hvf
    have hb1 := b1.size
    by_cases hkl : k < l.length
    · obtain ⟨b, off, x0, x1, x2, x3, rfl, hlt, hx, c0, c1, c2, c3⟩ := HL.out.at hkl
      have HX : Hid (l[k]? = some (x0, x1, x2, x3)) := hx
      replace c0 := (hb.cell (p := ⟨b, _, none⟩) hlt).trans c0
      replace c1 := (hb.cell (p := ⟨b, _, none⟩) hlt).trans c1
      replace c2 := (hb.cell (p := ⟨b, _, none⟩) hlt).trans c2
      replace c3 := (hb.cell (p := ⟨b, _, none⟩) hlt).trans c3
      have hle := ofR_take_le l k r
      have HN := ofR_next hx r
      have ba : Below w.heap.size w (wr.alloc (.cells #[.int .i64 x0, .int .i64 x1, .int .i64 x2, .int .i64 x3] 52)) := hb.alloc hb.size _
      clear hx
      by_cases hz : x1 = r
      · have HE : Hid (ofR (l.take (k + 1)) r = ofR (l.take k) r ++ [(x0, x1, x2, x3)]) := by show _ = _; rw [HN, if_pos hz]
        have hbq : (x1 == r) = true := by simpa using hz
        have own3 := HO.out
        obtain ⟨L, hL⟩ : ∃ L, ofR (l.take k) r = L := ⟨_, rfl⟩
        rw [hL] at own3 HE hle ⊢
        clear HN hz HO hL
        go_wp2_with (at_builtin; refine wpList_append_at _ rfl _ _ 35 rfl w1.heap.size 52 jj _ 4 32 Tryd.underlying35 hj hy0 hy1 hy2 rfl (by decide) _ _ _ rfl ((own3.alloc _).alloc _) ⟨wr.heap.size + 1, 0, none⟩ 1 1 [.int .i64 x0, .int .i64 x1, .int .i64 x2, .int .i64 x3] rfl rfl ?c1A ?c2A ?c3A ?c4A ?c5A ?_)
        case c1A => exact wr_new (by simp) _ _ _ _ _
        case c2A => exact four_one _ _ _ _
        case c3A => unfold maxLen; omega
        case c4A => omega
        case c5A => simp; omega
        intro v1 w8 own8 hg8 hnw8
        have B8 : Below w.heap.size w w8 := (ba.alloc (by simp; have := hb.size; omega) _).grown hg8 (by simp; have := hb.size; omega) (fun g hg => Nat.le_trans hb1 (own3.lt g hg).1)
        have S8 : w1.heap.size ≤ w8.heap.size := Nat.le_trans (by simp; omega) hg8.size
        have O8 : Hid (w8.ownsRow w1.heap.size 52 4 v1 (ofR (l.take (k + 1)) r).length (wrCells (ofR (l.take (k + 1)) r))) := by
          show World.ownsRow _ _ _ _ _ _ _
          rw [HE.out, wrCells_snoc, List.length_append]
          exact own8
        clear own8 hg8 hnw8 own3
        go_wp2
        go_roundw
        case rel => exact ⟨k + 1, by omega, by go_num, O8, B8, S8⟩
        case measure => simp [intOf]; omega
      · have HE : Hid (ofR (l.take (k + 1)) r = ofR (l.take k) r) := by show _ = _; rw [HN, if_neg hz]
        have hbq : (x1 == r) = false := by simpa using hz
        have O8 : Hid ((wr.alloc (.cells #[.int .i64 x0, .int .i64 x1, .int .i64 x2, .int .i64 x3] 52)).ownsRow w1.heap.size 52 4 (.slice vo (ofR (l.take k) r).length vk) (ofR (l.take (k + 1)) r).length (wrCells (ofR (l.take (k + 1)) r))) := by
          show World.ownsRow _ _ _ _ _ _ _
          rw [HE.out]
          exact HO.out.alloc _
        have S8 : w1.heap.size ≤ (wr.alloc (.cells #[.int .i64 x0, .int .i64 x1, .int .i64 x2, .int .i64 x3] 52)).heap.size := by simp; omega
        obtain ⟨L, hL⟩ : ∃ L, ofR (l.take k) r = L := ⟨_, rfl⟩
        rw [hL] at O8 ⊢
        clear HN hz HO hL
        go_wp2
        go_roundw
        case rel => exact ⟨k + 1, by omega, by go_num, O8, ba, S8⟩
        case measure => simp [intOf]; omega
    · obtain rfl : k = l.length := by omega
      have HS : Hid (Wrs wr (.slice vo (ofR (l.take l.length) r).length vk) (ofR l r)) := by
        have := evs_of_own HO.out
        rw [List.take_length] at this ⊢
        exact this
      obtain ⟨L, hL⟩ : ∃ L, ofR (l.take l.length) r = L := ⟨_, rfl⟩
      rw [hL] at HS ⊢
      clear HO HL hL
      go_wp2
      go_ret2
      exact ⟨_, rfl, HS.out, hb⟩
/-- Of does what the laws of traces ask of it. -/
theorem trc_of (G : World → Prop) : TrcOf G := fun l v r W _ hl => by
  by_cases h0 : evchk l = 0
  · by_cases hr : r < -1 ∨ 4 < r
    · have he : ofE l r = 1 := by unfold ofE; rw [if_pos h0, if_pos hr]
      unfold ofV
      rw [he]
      refine (tof_room l v r W hl h0 hr).mono ?_
      rintro e w' ⟨rfl, hb⟩
      exact ⟨_, rfl, Or.inl ⟨rfl, _, _, rfl⟩, hb⟩
    · have he : ofE l r = 0 := by unfold ofE; rw [if_pos h0, if_neg hr]
      unfold ofV
      rw [he, if_pos rfl]
      exact tof_ok l v r W hl h0 (by omega)
  · have he : ofE l r = evchk l := by unfold ofE; rw [if_neg h0]
    unfold ofV
    rw [he, if_neg h0]
    refine (tof_wrong l v r W hl h0).mono ?_
    rintro e w' ⟨rfl, hb⟩
    exact ⟨_, rfl, Or.inl ⟨rfl, _, _, rfl⟩, hb⟩
end Go.Proofs.YtfconbblnmbnpahDoor
namespace Go.Proofs.YtfconbblnmbnpahDoor
open Go.RowKit

set_option maxRecDepth 100000 in
set_option maxHeartbeats 1000000 in
theorem clash_any (o s : S3) (sb : Nat) (w : World) (k0 : w.cell? ⟨sb, 0, none⟩ = some (.int .i64 s.1)) (k1 : w.cell? ⟨sb, 1, none⟩ = some (.int .i64 s.2.1)) :
    Calls Tryd.prog 39 #[.agg #[.int .i64 o.1, .int .i64 o.2.1, .int .i64 o.2.2], .pointer (some ⟨sb, 0, none⟩)] w fun e w' => e = .returned (.bool (clashB s o)) ∧ Below w.heap.size w w' := by
  have hlt := ltc k0
  have hn : sb ≠ w.heap.size := by omega
  obtain ⟨a, b, r⟩ := o
  obtain ⟨c, d, q⟩ := s
  simp only at k0 k1 ⊢
  by_cases h1 : a < d
  · by_cases h2 : c < b
    · have HF : Hid (clashB (c, d, q) (a, b, r) = true) := by show _ = _; simp [clashB, h1, h2]
      go_enter Tryd.func39, Tryd.ntmps39
      go_wp2
      go_ret
      exact ⟨retB HF.out.symm, (Below.refl _ _).alloc (Nat.le_refl _) _⟩
    · have h2' : decide (c < b) = false := by simpa using h2
      have HF : Hid (clashB (c, d, q) (a, b, r) = false) := by show _ = _; simp [clashB, h2]
      go_enter Tryd.func39, Tryd.ntmps39
      go_wp2
      go_ret
      exact ⟨retB HF.out.symm, (Below.refl _ _).alloc (Nat.le_refl _) _⟩
  · have h1' : decide (a < d) = false := by simpa using h1
    have HF : Hid (clashB (c, d, q) (a, b, r) = false) := by show _ = _; simp [clashB, h1]
    go_enter Tryd.func39, Tryd.ntmps39
    go_wp2
    go_ret
    exact ⟨retB HF.out.symm, (Below.refl _ _).alloc (Nat.le_refl _) _⟩

theorem fc_hit {α : Type} {p : α → Bool} {l : List α} {k : Nat} {o : α} (h : l[k]? = some o) (hp : p o = true) : l.any p = true := by
  rw [List.any_eq_true]
  exact ⟨o, List.mem_of_getElem? h, hp⟩
theorem any_miss {α : Type} {p : α → Bool} {l : List α} (h : ∀ (i : Nat) x, i < l.length → l[i]? = some x → p x = false) : l.any p = false := by
  rw [List.any_eq_false]
  intro x hx
  obtain ⟨i, hi, rfl⟩ := List.getElem_of_mem hx
  have := h i l[i] hi (List.getElem?_eq_getElem hi)
  simp [this]

set_option maxRecDepth 100000 in
set_option maxHeartbeats 2000000 in
theorem idxClash (l : List S3) (s : S3) (b off cap sb : Nat) (w : World) (k0 : w.cell? ⟨sb, 0, none⟩ = some (.int .i64 s.1)) (k1 : w.cell? ⟨sb, 1, none⟩ = some (.int .i64 s.2.1)) (hlen : l.length ≤ 12) (hlt : b < w.heap.size) (hc : SpC w b off l) :
    Calls Tryd.prog 40 #[.slice (some ⟨b, off, none⟩) l.length cap, .func (.func 39) #[] #[.pointer (some ⟨sb, 0, none⟩)]] w fun e w' =>
      (∃ r : Int, e = .returned (.int .i64 r) ∧ decide (0 ≤ r) = l.any (clashB s)) ∧ Below w.heap.size w w' := by
  have hlt1 := ltc k0
  go_enter Tryd.func40, Tryd.ntmps40
  go_wp2
  go_loopw [8] (fun i wr => ∃ k : Nat, k ≤ l.length ∧ i = .int .i64 k ∧ (∀ (j : Nat) x, j < k → l[j]? = some x → clashB s x = false) ∧ Below w.heap.size w wr) (fun i _ => l.length - (intOf i).toNat)
  case atStart => exact ⟨0, Nat.zero_le _, rfl, fun j x hj => by omega, Below.refl _ _⟩
  case round =>
    obtain ⟨k, hk, rfl, hall, hb⟩ := hrel
    have e0 : wr.cell? ⟨sb, 0, none⟩ = some (.int .i64 s.1) := (hb.cell (p := ⟨sb, 0, none⟩) hlt1).trans k0
    have e1 : wr.cell? ⟨sb, 1, none⟩ = some (.int .i64 s.2.1) := (hb.cell (p := ⟨sb, 1, none⟩) hlt1).trans k1
    have Hall : Hid (∀ (j : Nat) x, j < k → l[j]? = some x → clashB s x = false) := hall
    clear hall
    by_cases hkl : k < l.length
    · obtain ⟨o, ho⟩ : ∃ o, l[k]? = some o := ⟨l[k], List.getElem?_eq_getElem hkl⟩
      have HO : Hid (l[k]? = some o) := ho
      obtain ⟨c0, c1, c2⟩ := hc.below hb hlt k o ho
      clear ho
      have hon := clash_any o s sb wr e0 e1
      clear e0 e1
      cases hok : clashB s o with
      | false =>
        have HN : Hid (clashB s o = false) := hok
        rw [hok] at hon
        clear hok
        go_wp2_with (go_at_call 39; refine hon.mono ?_; rintro e w1 ⟨rfl, b1⟩; clear hon)
        go_roundw
        case rel =>
          refine ⟨k + 1, by omega, by go_num, fun j x hj hx => ?_, hb.trans (b1.mono hb.size)⟩
          by_cases hjk : j < k
          · exact Hall.out j x hjk hx
          · obtain rfl : j = k := by omega
            rw [HO.out] at hx
            obtain rfl := Option.some.inj hx
            exact HN.out
        case measure => simp [intOf]; omega
      | true =>
        have HF : Hid (l.any (clashB s) = true) := fc_hit HO.out hok
        rw [hok] at hon
        clear hok
        go_wp2_with (go_at_call 39; refine hon.mono ?_; rintro e w1 ⟨rfl, b1⟩; clear hon)
        go_ret
        exact ⟨⟨_, rfl, by rw [HF.out]; simp⟩, hb.trans (b1.mono hb.size)⟩
    · have HF : Hid (l.any (clashB s) = false) := any_miss (fun i x hi hx => Hall.out i x (by omega) hx)
      clear e0 e1
      go_wp2
      go_ret
      exact ⟨⟨_, rfl, by rw [HF.out]; simp⟩, hb⟩

set_option maxRecDepth 100000 in
set_option maxHeartbeats 2000000 in
theorem conClash (l : List S3) (s : S3) (b off cap sb : Nat) (w : World) (k0 : w.cell? ⟨sb, 0, none⟩ = some (.int .i64 s.1)) (k1 : w.cell? ⟨sb, 1, none⟩ = some (.int .i64 s.2.1)) (hlen : l.length ≤ 12) (hlt : b < w.heap.size) (hc : SpC w b off l) :
    Calls Tryd.prog 23 #[.slice (some ⟨b, off, none⟩) l.length cap, .func (.func 39) #[] #[.pointer (some ⟨sb, 0, none⟩)]] w fun e w' =>
      e = .returned (.bool (l.any (clashB s))) ∧ Below w.heap.size w w' := by
  have h := idxClash l s b off cap sb w k0 k1 hlen hlt hc
  clear k0 k1 hc
  go_enter Tryd.func23, Tryd.ntmps23
  go_wp2_with (go_at_call 40; refine h.mono ?_; rintro e w1 ⟨⟨r, rfl, hr⟩, bb⟩; clear h; have HR : Hid (decide (0 ≤ r) = l.any (clashB s)) := hr; clear hr)
  go_ret
  exact ⟨retB HR.out, bb⟩

set_option maxRecDepth 100000 in
set_option maxHeartbeats 1000000 in
theorem fcheck_ticks (n : Int) (v : Value) (w : World) (h : n < 1 ∨ 40 < n) :
    Calls Tryd.prog 22 #[.int .i64 n, v] w fun e w' => e = .returned (.tuple #[.int .i64 0, fErr 1]) ∧ Below w.heap.size w w' := by
  by_cases h1 : n < 1
  · go_enter Tryd.func22, Tryd.ntmps22
    go_wp2
    go_ret2
    exact ⟨rfl, Below.refl _ _⟩
  · have h1' : decide (n < 1) = false := by simpa using h1
    have h2 : 40 < n := by omega
    go_enter Tryd.func22, Tryd.ntmps22
    go_wp2
    go_ret2
    exact ⟨rfl, Below.refl _ _⟩
set_option maxRecDepth 100000 in
set_option maxHeartbeats 1000000 in
theorem fcheck_long (n : Int) (ao : Option Addr) (m cap : Nat) (w : World) (h1 : ¬ n < 1) (h2 : ¬ 40 < n) (hm : 12 < m) :
    Calls Tryd.prog 22 #[.int .i64 n, .slice ao m cap] w fun e w' => e = .returned (.tuple #[.int .i64 0, fErr 4]) ∧ Below w.heap.size w w' := by
  have h1' : decide (n < 1) = false := by simpa using h1
  have h2' : decide (40 < n) = false := by simpa using h2
  go_enter Tryd.func22, Tryd.ntmps22
  go_wp2
  go_ret2
  exact ⟨rfl, Below.refl _ _⟩
set_option maxRecDepth 100000 in
set_option maxHeartbeats 1000000 in
theorem fcheck_nil (n : Int) (ao : Option Addr) (cap : Nat) (w : World) (h1 : ¬ n < 1) (h2 : ¬ 40 < n) :
    Calls Tryd.prog 22 #[.int .i64 n, .slice ao 0 cap] w fun e w' => e = .returned (.tuple #[.int .i64 0, fErr 0]) ∧ Below w.heap.size w w' := by
  have h1' : decide (n < 1) = false := by simpa using h1
  have h2' : decide (40 < n) = false := by simpa using h2
  go_enter Tryd.func22, Tryd.ntmps22
  go_wp2
  refine wp_loop_rounds 1 ?_
  rw [rounds_succ]
  go_wp2
  go_ret2
  exact ⟨rfl, Below.refl _ _⟩

theorem take_len {α : Type} {l : List α} {k : Nat} (h : k < l.length) : (l.take k).length = k := by rw [List.length_take]; omega

set_option maxRecDepth 100000 in
set_option maxHeartbeats 4000000 in
theorem fcheck_mid (n : Int) (l : List S3) (b off cap : Nat) (w : World) (h1 : ¬ n < 1) (h2 : ¬ 40 < n) (hl : ¬ 12 < l.length) (hcap : l.length ≤ cap) (hlt : b < w.heap.size) (hc : SpC w b off l) :
    Calls Tryd.prog 22 #[.int .i64 n, .slice (some ⟨b, off, none⟩) l.length cap] w fun e w' => e = .returned (.tuple #[.int .i64 (scan (badAt n l) l.length 0).1, fErr (scan (badAt n l) l.length 0).2]) ∧ Below w.heap.size w w' := by
  have h1' : decide (n < 1) = false := by simpa using h1
  have h2' : decide (40 < n) = false := by simpa using h2
  have h3' : decide (12 < l.length) = false := by simpa using hl
  go_enter Tryd.func22, Tryd.ntmps22
  go_wp2
  go_loopw [22] (fun i wr => ∃ k : Nat, k ≤ l.length ∧ i = .int .i64 k ∧ Hid (scan (badAt n l) l.length 0 = scan (badAt n l) (l.length - k) k) ∧ Below w.heap.size w wr) (fun i _ => l.length - (intOf i).toNat)
  case atStart => exact ⟨0, Nat.zero_le _, rfl, rfl, Below.refl _ _⟩
  case round =>
    obtain ⟨k, hk, rfl, HS, hb⟩ := hrel
    by_cases hkl : k < l.length
    · have hkc : k ≤ cap := by omega
      obtain ⟨o, ho⟩ : ∃ o, l[k]? = some o := ⟨l[k], List.getElem?_eq_getElem hkl⟩
      have HO : Hid (l[k]? = some o) := ho
      obtain ⟨c0, c1, c2⟩ := hc.below hb hlt k o ho
      clear ho
      have bA : Below wr.heap.size wr (wr.alloc (.cells #[.int .i64 o.1, .int .i64 o.2.1, .int .i64 o.2.2] 23)) := (Below.refl _ _).alloc (Nat.le_refl _) _
      have hbA := hb.trans (bA.mono hb.size)
      have hfit := ffits_any o n (wr.alloc (.cells #[.int .i64 o.1, .int .i64 o.2.1, .int .i64 o.2.2] 23))
      cases hok : spOk n o with
      | false =>
        have HF : Hid (scan (badAt n l) l.length 0 = ((k : Int), 1)) := by
          have e := badOf_range (l := l.take k) hok
          show _ = _
          rw [scan_hit hkl HS.out (by rw [badAt_some HO.out, e]; decide), badAt_some HO.out, e]
        rw [hok] at hfit
        clear hok HS
        go_wp2_with (go_at_call 38; refine hfit.mono ?_; rintro e w1 ⟨rfl, b1⟩; clear hfit)
        go_ret2
        rw [HF.out]
        exact ⟨rfl, hbA.trans (b1.mono hbA.size)⟩
      | true =>
        have hcl : ∀ W, Below (wr.heap.size + 1) (wr.alloc (.cells #[.int .i64 o.1, .int .i64 o.2.1, .int .i64 o.2.2] 23)) W → Calls Tryd.prog 23 #[.slice (some ⟨b, off, none⟩) k cap, .func (.func 39) #[] #[.pointer (some ⟨wr.heap.size, 0, none⟩)]] W fun e w' =>
            e = .returned (.bool ((l.take k).any (clashB o))) ∧ Below W.heap.size W w' := fun W hW => by
          have hlt' : b < wr.heap.size := Nat.lt_of_lt_of_le hlt hb.size
          have h := conClash (l.take k) o b off cap wr.heap.size W ((hW.cell (p := ⟨wr.heap.size, 0, none⟩) (by simp)).trans (by simp)) ((hW.cell (p := ⟨wr.heap.size, 1, none⟩) (by simp)).trans (by simp)) (by rw [List.length_take]; omega) (Nat.lt_of_lt_of_le hlt' (by have := hW.size; simp at this; omega)) (((((hc.below hb hlt)).below bA hlt').take k).below hW (by omega))
          rw [take_len hkl] at h
          exact h
        have HC : Hid (∀ W, Below (wr.heap.size + 1) (wr.alloc (.cells #[.int .i64 o.1, .int .i64 o.2.1, .int .i64 o.2.2] 23)) W → Calls Tryd.prog 23 #[.slice (some ⟨b, off, none⟩) k cap, .func (.func 39) #[] #[.pointer (some ⟨wr.heap.size, 0, none⟩)]] W fun e w' =>
            e = .returned (.bool ((l.take k).any (clashB o))) ∧ Below W.heap.size W w') := hcl
        have HK : Hid (spOk n o = true) := hok
        rw [hok] at hfit
        clear hok hcl
        cases han : (l.take k).any (clashB o) with
        | true =>
          have HF : Hid (scan (badAt n l) l.length 0 = ((k : Int), 7)) := by
            have e := badOf_clash HK.out han
            show _ = _
            rw [scan_hit hkl HS.out (by rw [badAt_some HO.out, e]; decide), badAt_some HO.out, e]
          rw [han] at HC
          clear han HS
          go_wp2_with (first | (go_at_call 38; refine hfit.mono ?_; rintro e w1 ⟨rfl, b1⟩; clear hfit; have h2 := HC.out w1 (by simpa using b1)) | (go_at_call 23; refine h2.mono ?_; rintro e w2 ⟨rfl, b2⟩; clear h2))
          go_ret2
          rw [HF.out]
          exact ⟨rfl, (hbA.trans (b1.mono hbA.size)).trans (b2.mono (hbA.trans (b1.mono hbA.size)).size)⟩
        | false =>
          have HF : Hid (scan (badAt n l) l.length 0 = scan (badAt n l) (l.length - (k + 1)) (k + 1)) := by
            show _ = _
            exact scan_next hkl HS.out (by rw [badAt_some HO.out]; exact badOf_none HK.out han)
          rw [han] at HC
          clear han HS
          go_wp2_with (first | (go_at_call 38; refine hfit.mono ?_; rintro e w1 ⟨rfl, b1⟩; clear hfit; have h2 := HC.out w1 (by simpa using b1)) | (go_at_call 23; refine h2.mono ?_; rintro e w2 ⟨rfl, b2⟩; clear h2))
          go_roundw
          case rel => exact ⟨k + 1, by omega, by go_num, HF.out, (hbA.trans (b1.mono hbA.size)).trans (b2.mono (hbA.trans (b1.mono hbA.size)).size)⟩
          case measure => simp [intOf]; omega
    · obtain rfl : k = l.length := by omega
      have HF : Hid (scan (badAt n l) l.length 0 = (0, 0)) := by
        show _ = _
        exact scan_end HS.out
      clear HS
      go_wp2
      go_ret2
      rw [HF.out]
      exact ⟨rfl, hb⟩
theorem fcheck_any (n : Int) (l : List S3) (v : Value) (w : World) (hl : Sps w v l) :
    Calls Tryd.prog 22 #[.int .i64 n, v] w fun e w' => e = .returned (.tuple #[.int .i64 (fchk n l).1, fErr (fchk n l).2]) ∧ Below w.heap.size w w' := by
  by_cases h1 : n < 1 ∨ 40 < n
  · rw [fchk_lo h1]
    exact fcheck_ticks n v w h1
  rcases hl with ⟨rfl, ao, cap, rfl⟩ | ⟨b, off, cap, rfl, hcap, hlt, hc⟩
  · rw [fchk_mid h1 (by simp)]
    exact fcheck_nil n ao cap w (by omega) (by omega)
  · by_cases h2 : 12 < l.length
    · rw [fchk_long h1 h2]
      exact fcheck_long n _ _ cap w (by omega) (by omega) h2
    · rw [fchk_mid h1 h2]
      exact fcheck_mid n l b off cap w (by omega) (by omega) h2 hcap hlt hc
end Go.Proofs.YtfconbblnmbnpahDoor
namespace Go.Proofs.YtfconbblnmbnpahDoor
open Go.RowKit

/-- Who has a tick; the fault. -/
def whoR (n : Int) (l : List S3) (t : Int) : Int × Int := if (fchk n l).2 = 0 then (if t < 0 then (0, 1) else (hold l (t % n), 0)) else (0, (fchk n l).2)

set_option maxRecDepth 100000 in
set_option maxHeartbeats 4000000 in
theorem who_bad (n : Int) (v : Value) (t : Int) (k e : Int) (w : World) (he : e ≠ 0)
    (hk : Calls Tryd.prog 22 #[.int .i64 n, v] w fun ev w' => ev = .returned (.tuple #[.int .i64 k, fErr e]) ∧ Below w.heap.size w w') :
    Calls Tryd.prog 49 #[.int .i64 n, v, .int .i64 t] w fun ev w' => ev = .returned (.tuple #[.int .i64 0, fErr e]) ∧ Below w.heap.size w w' := by
  rw [fErr_not he] at hk ⊢
  go_enter Tryd.func49, Tryd.ntmps49
  go_wp2_with (go_at_call 22; refine hk.mono ?_; rintro ev w1 ⟨rfl, b1⟩; clear hk)
  go_ret2
  exact ⟨rfl, b1⟩
set_option maxRecDepth 100000 in
set_option maxHeartbeats 4000000 in
theorem who_neg (n : Int) (v : Value) (t : Int) (k : Int) (w : World) (ht : t < 0)
    (hk : Calls Tryd.prog 22 #[.int .i64 n, v] w fun ev w' => ev = .returned (.tuple #[.int .i64 k, .nilIface]) ∧ Below w.heap.size w w') :
    Calls Tryd.prog 49 #[.int .i64 n, v, .int .i64 t] w fun ev w' => ev = .returned (.tuple #[.int .i64 0, fErr 1]) ∧ Below w.heap.size w w' := by
  go_enter Tryd.func49, Tryd.ntmps49
  go_wp2_with (go_at_call 22; refine hk.mono ?_; rintro ev w1 ⟨rfl, b1⟩; clear hk)
  go_ret2
  exact ⟨rfl, b1⟩
set_option maxRecDepth 100000 in
set_option maxHeartbeats 4000000 in
theorem who_good (n : Int) (l : List S3) (v : Value) (t : Int) (k : Int) (w : World) (hl : Sps w v l) (hlen : l.length ≤ 12) (hn0 : 1 ≤ n) (hn1 : n ≤ 40) (ht : 0 ≤ t)
    (hk : Calls Tryd.prog 22 #[.int .i64 n, v] w fun ev w' => ev = .returned (.tuple #[.int .i64 k, .nilIface]) ∧ Below w.heap.size w w') :
    Calls Tryd.prog 49 #[.int .i64 n, v, .int .i64 t] w fun ev w' => ev = .returned (.tuple #[.int .i64 (hold l (t % n)), fErr 0]) ∧ Below w.heap.size w w' := by
  have ht' : decide (t < 0) = false := by simp; omega
  have hn' : n ≠ 0 := by omega
  have hh : ∀ W, Below w.heap.size w W → Calls Tryd.prog 65 #[v, .int .i64 (t % n)] W fun e w' => e = .returned (.int .i64 (hold l (t % n))) ∧ Below W.heap.size W w' := fun W hb => by
    exact holder_any l v (t % n) W (hl.all hb) hlen
  have HH : Hid (∀ W, Below w.heap.size w W → Calls Tryd.prog 65 #[v, .int .i64 (t % n)] W fun e w' => e = .returned (.int .i64 (hold l (t % n))) ∧ Below W.heap.size W w') := hh
  clear hh hl
  go_enter Tryd.func49, Tryd.ntmps49
  go_wp2_with (first | (go_at_call 22; refine hk.mono ?_; rintro ev w1 ⟨rfl, b1⟩; clear hk; have h2 := HH.out w1 b1; clear HH) | (go_at_call 65; refine h2.mono ?_; rintro ev w2 ⟨rfl, b2⟩; clear h2))
  go_ret2
  exact ⟨rfl, b1.trans (b2.mono b1.size)⟩
theorem who_any (n : Int) (l : List S3) (v : Value) (t : Int) (w : World) (hl : Sps w v l) :
    Calls Tryd.prog 49 #[.int .i64 n, v, .int .i64 t] w fun ev w' => ev = .returned (.tuple #[.int .i64 (whoR n l t).1, fErr (whoR n l t).2]) ∧ Below w.heap.size w w' := by
  have hk := fcheck_any n l v w hl
  unfold whoR
  by_cases h : (fchk n l).2 = 0
  · obtain ⟨h1, h2, h3, _, _⟩ := fchk_zero h
    rw [h] at hk
    rw [if_pos h]
    by_cases ht : t < 0
    · rw [if_pos ht]
      exact who_neg n v t _ w ht hk
    · rw [if_neg ht]
      exact who_good n l v t _ w hl h3 h1 h2 (by omega) hk
  · rw [if_neg h]
    exact who_bad n v t _ _ w h hk
end Go.Proofs.YtfconbblnmbnpahDoor
