/-
  OnesM, KCountM, RIn, Same, SamePlan: joined into one text.
-/
import Derived.Test.YtajfgmlockjmhaeDoorJa1
import Derived.Test.YtajfgmlockjmhaeDoorJa2
import Derived.Test.YtajfgmlockjmhaeDoorJa3
import Derived.Deep.QuietTactic
import Derived.BigQuiet
import Derived.Laws.StructEq
import Derived.WalkSmall
import Derived.Deep.RegionWith
namespace Go.Proofs.YtajfgmlockjmhaeDoor

/-- The spans: one tick each, one behind the other. -/
def ones (k : Nat) : List S3 := (List.range k).map fun (i : Nat) => ((i : Int), (i : Int) + 1, (i : Int))
theorem ones_succ (k : Nat) : ones (k + 1) = ones k ++ [((k : Int), (k : Int) + 1, (k : Int))] := by simp [ones, List.range_succ]
theorem ones_len (k : Nat) : (ones k).length = k := by simp [ones]
end Go.Proofs.YtajfgmlockjmhaeDoor
namespace Go.Proofs.YtajfgmlockjmhaeDoor

/-- The code of a room that counts. -/
def cntC : List O3 := [(1, 1, 1), (3, 0, 1)]
/-- So many rooms that count. -/
def cntP (n : Nat) : PD := ⟨List.replicate n cntC, n, ones n, []⟩
theorem cntP_ok : ∀ n : Nat, n < 6 → 1 ≤ n → plchk (cntP n) = 0 := by decide +kernel
theorem cnt_hold : ∀ n : Nat, n < 6 → ∀ q : Nat, q < n → hold (ones n) (q : Int) = (q : Int) := by decide +kernel
/-- A room behind so many steps. -/
def cntS (j : Nat) : St := ⟨((j % 2 : Nat) : Int), fun i => if i = 0 then (((j / 2) % 1000 : Nat) : Int) else if i = 1 then (if j = 0 then 0 else 1) else 0, false⟩
theorem cntS_new : cntS 0 = stNew := by
  unfold cntS stNew
  congr 1
  funext i
  by_cases h0 : i = 0
  · simp [h0]
  · by_cases h1 : i = 1
    · simp [h1]
    · simp [h0, h1]
theorem cntS_even (j : Nat) (h : j % 2 = 0) : stepF (1, 1, 1) (cntS j) 2 0 false = cntS (j + 1) := by
  have h1 : (j + 1) % 2 = 1 := by omega
  have h2 : (j + 1) / 2 = j / 2 := by omega
  have hp : nextF (1, 1, 1) (cntS j) 2 false = (cntS (j + 1)).p := by unfold nextF; simp [cntS, h, h1]
  have hc : cellsF (1, 1, 1) (cntS j).c 0 false = (cntS (j + 1)).c := by
    funext i
    show upd (cntS j).c 1 1 i = _
    unfold upd cntS
    by_cases h0 : i = 0
    · subst h0; simp [h2]
    · by_cases h3 : i = 1
      · subst h3; simp
      · simp [h0, h3]
  unfold stepF
  rw [if_neg (by simp [cntS]), hp, hc]
  rfl
theorem cntS_odd (j : Nat) (h : j % 2 = 1) : stepF (3, 0, 1) (cntS j) 2 0 false = cntS (j + 1) := by
  have h1 : (j + 1) % 2 = 0 := by omega
  have h2 : (j + 1) / 2 = j / 2 + 1 := by omega
  have h3 : j ≠ 0 := by omega
  have hp : nextF (3, 0, 1) (cntS j) 2 false = (cntS (j + 1)).p := by unfold nextF; simp [cntS, h, h1]
  have hc : cellsF (3, 0, 1) (cntS j).c 0 false = (cntS (j + 1)).c := by
    funext i
    show upd (cntS j).c 0 (((cntS j).c 0 + (cntS j).c 1) % 1000) i = _
    unfold upd cntS
    by_cases h0 : i = 0
    · subst h0
      simp [h2, h3]
    · by_cases h4 : i = 1
      · subst h4; simp [h3]
      · simp [h0, h4]
  unfold stepF
  rw [if_neg (by simp [cntS]), hp, hc]
  rfl
/-- How many turns a room had. -/
def cntT (n r t : Nat) : Nat := (t + n - 1 - r) / n
theorem cntT_next {n r t : Nat} (hn : 0 < n) (hr : r < n) : cntT n r (t + 1) = if r = t % n then cntT n r t + 1 else cntT n r t := by
  unfold cntT
  have hd := Nat.div_add_mod t n
  have hm := Nat.mod_lt t hn
  generalize t / n = q at hd
  generalize t % n = m at hd hm
  subst hd
  split
  · rename_i h
    subst h
    rw [show n * q + r + 1 + n - 1 - r = n * (q + 1) by rw [Nat.mul_add]; omega, show n * q + r + n - 1 - r = n * q + (n - 1) by omega, Nat.mul_div_cancel_left _ hn, Nat.mul_add_div hn, Nat.div_eq_of_lt (by omega)]
  · rename_i h
    by_cases hlt : r < m
    · rw [show n * q + m + 1 + n - 1 - r = n * (q + 1) + (m - r) by rw [Nat.mul_add]; omega, show n * q + m + n - 1 - r = n * (q + 1) + (m - r - 1) by rw [Nat.mul_add]; omega, Nat.mul_add_div hn, Nat.mul_add_div hn, Nat.div_eq_of_lt (by omega), Nat.div_eq_of_lt (by omega)]
    · rw [show n * q + m + 1 + n - 1 - r = n * q + (m + n - r) by omega, show n * q + m + n - 1 - r = n * q + (m + n - r - 1) by omega, Nat.mul_add_div hn, Nat.mul_add_div hn, Nat.div_eq_of_lt (by omega), Nat.div_eq_of_lt (by omega)]
/-- All of it behind so many ticks. -/
def cntK (n t : Nat) : KD := ⟨(List.range n).map fun r => cntS (cntT n r t), [], t⟩
theorem cntK_new (n : Nat) : newK (cntP n) = cntK n 0 := by
  unfold newK cntK cntP
  simp only [List.map_replicate, List.map_nil, KD.mk.injEq, true_and]
  refine ⟨?_, rfl⟩
  apply List.ext_getElem?
  intro i
  by_cases hi : i < n
  · have : cntT n i 0 = 0 := by unfold cntT; exact Nat.div_eq_of_lt (by omega)
    simp [hi, this, cntS_new]
  · simp [hi]
theorem cntK_room {n t r : Nat} (hr : r < n) : (cntK n t).rooms[r]? = some (cntS (cntT n r t)) := by simp [cntK, hr]
theorem cntK_tick {n t : Nat} (hn : 0 < n) (h5 : n < 6) : (tickK (cntP n) (cntP n).spans (cntK n t)).1 = cntK n (t + 1) := by
  have hm := Nat.mod_lt t hn
  have hh : hold (cntP n).spans ((cntK n t).time % (cntP n).ticks) = ((t % n : Nat) : Int) := by
    show hold (ones n) ((t : Int) % (n : Int)) = _
    rw [show (t : Int) % (n : Int) = ((t % n : Nat) : Int) from rfl]
    exact cnt_hold n h5 _ hm
  unfold tickK
  simp only [hh]
  rw [if_neg (by omega), Int.toNat_natCast]
  generalize hq : t % n = q at hm
  unfold turnK
  have hc : (cntP n).code.getD q [] = cntC := by simp [cntP, List.getD, hm]
  have hs : (cntK n t).rooms.getD q stNew = cntS (cntT n q t) := by simp [List.getD, cntK_room hm]
  simp only [hc, hs]
  have hst : ∀ j, stepF (opAt cntC (cntS j)) (cntS j) cntC.length (gotK (cntK n t) (opAt cntC (cntS j)) (cntS j)).1 (gotK (cntK n t) (opAt cntC (cntS j)) (cntS j)).2 = cntS (j + 1) ∧ linesS (linesT (cntK n t) (opAt cntC (cntS j)) (cntS j)) (opAt cntC (cntS j)) (sendF (opAt cntC (cntS j)) (cntS j)) = [] := fun j => by
    rcases Nat.mod_two_eq_zero_or_one j with h | h
    · have ho : opAt cntC (cntS j) = (1, 1, 1) := by unfold opAt; simp [cntS, h, cntC]
      rw [ho]
      exact ⟨cntS_even j h, rfl⟩
    · have ho : opAt cntC (cntS j) = (3, 0, 1) := by unfold opAt; simp [cntS, h, cntC]
      rw [ho]
      exact ⟨cntS_odd j h, rfl⟩
  rw [(hst _).1, (hst _).2]
  unfold cntK
  simp only [KD.mk.injEq, true_and]
  refine ⟨?_, by simp⟩
  apply List.ext_getElem?
  intro i
  by_cases hi : i < n
  · rw [List.getElem?_set]
    simp only [List.length_map, List.length_range, List.getElem?_map, List.getElem?_range hi, Option.map_some]
    rw [cntT_next hn hi, hq]
    by_cases hqi : q = i
    · subst hqi
      simp [hm]
    · simp [hqi, Ne.symm hqi]
  · simp [hi]
theorem cntK_ok {n : Nat} (hn : 0 < n) (h5 : n < 6) : ∀ t, KOk (cntP n) (cntK n t)
  | 0 => by rw [← cntK_new n]; exact new_ok (cntP_ok n h5 hn)
  | t + 1 => by rw [← cntK_tick hn h5]; exact tick_ok (cntP_ok n h5 hn) (cntK_ok hn h5 t)
/-- Behind whole frames of their steps all have counted alike. -/
theorem cntT_whole {n r m : Nat} (hn : 0 < n) (hr : r < n) : cntT n r (2 * n * m) = 2 * m := by
  unfold cntT
  rw [show 2 * n * m + n - 1 - r = n * (2 * m) + (n - 1 - r) by rw [show 2 * n * m = n * (2 * m) by rw [Nat.mul_comm 2 n, Nat.mul_assoc]]; omega, Nat.mul_add_div hn, Nat.div_eq_of_lt (by omega)]
  omega
theorem cntS_whole {m : Nat} (hm : m ≤ 40) : (cntS (2 * m)).p = 0 ∧ (cntS (2 * m)).c 0 = (m : Int) := by
  unfold cntS
  refine ⟨?_, ?_⟩
  · show ((2 * m % 2 : Nat) : Int) = 0
    omega
  · show (((2 * m / 2) % 1000 : Nat) : Int) = m
    omega
end Go.Proofs.YtajfgmlockjmhaeDoor
namespace Go.Proofs.YtajfgmlockjmhaeDoor
open Go.RowKit

set_option maxRecDepth 1000000 in
set_option maxHeartbeats 4000000 in
theorem rin_any (v : Value) (zs : List Int) (n : Int) (w : World) (hv : Rd w v zs) (hl : zs.length ≤ 1000000) :
    Calls Tryd.prog 15 #[v, .int .i64 n] w fun e w' => e = .returned (.bool (decide (n ∈ zs))) ∧ Below w.heap.size w w' := by
  obtain ⟨ao, cap, rfl⟩ := hv.form
  have HV : Hid (Rd w (.slice ao zs.length cap) zs) := hv
  clear hv
  go_enter Tryd.func15, Tryd.ntmps15
  go_wp2
  go_loopw [5] (fun i wr => ∃ k : Nat, k ≤ zs.length ∧ i = .int .i64 k ∧ (∀ j : Nat, j < k → zs[j]? ≠ some n) ∧ Below w.heap.size w wr) (fun i _ => zs.length - (intOf i).toNat)
  case atStart => exact ⟨0, Nat.zero_le _, rfl, fun j hj => by omega, Below.refl _ _⟩
  case round =>
    obtain ⟨k, hk, rfl, hall, hbw⟩ := hrel
    have HA : Hid (∀ j : Nat, j < k → zs[j]? ≠ some n) := hall
    clear hall
    by_cases hkl : k < zs.length
    · obtain ⟨z, hz⟩ : ∃ z, zs[k]? = some z := ⟨zs[k], List.getElem?_eq_getElem hkl⟩
      have HZ : Hid (zs[k]? = some z) := hz
      have hki : (k : Int) < (zs.length : Int) := by omega
      obtain ⟨g, off, hao, hc⟩ : ∃ g off, ao = some ⟨g, off, none⟩ ∧ wr.cell? ⟨g, off + k, none⟩ = some (.int .i64 z) := by
        rcases HV.out with ⟨h0, _⟩ | ⟨g, off, cap', h1, _, _, h2, h3⟩
        · rw [h0] at hkl
          simp at hkl
        · injection h1 with e1
          exact ⟨g, off, e1, (hbw.cell (p := ⟨g, _, none⟩) h2).trans (h3 k z hz)⟩
      subst hao
      clear hz
      by_cases hzn : z = n
      · subst hzn
        have HN : Hid (decide (z ∈ zs) = true) := decide_eq_true (List.mem_of_getElem? HZ.out)
        go_wp2
        go_ret
        exact ⟨wretB HN.out.symm, hbw⟩
      · have hq : (z == n) = false := by simpa using hzn
        go_wp2
        go_roundw
        case rel =>
          refine ⟨k + 1, by omega, by go_num, fun j hj e => ?_, hbw⟩
          by_cases hjk : j < k
          · exact HA.out j hjk e
          · obtain rfl : j = k := by omega
            rw [HZ.out] at e
            exact hzn (Option.some.inj e)
        case measure => simp [intOf]; omega
    · have HN : Hid (decide (n ∈ zs) = false) := by
        refine decide_eq_false (fun hm => ?_)
        obtain ⟨j, hj⟩ := List.mem_iff_getElem?.1 hm
        have := (List.getElem?_eq_some_iff.1 hj).1
        exact HA.out j (by omega) hj
      go_wp2
      go_ret
      exact ⟨wretB HN.out.symm, hbw⟩
end Go.Proofs.YtajfgmlockjmhaeDoor
namespace Go.Proofs.YtajfgmlockjmhaeDoor
open Go.RowKit

theorem fieldsOp : Tryd.prog.underlying 38 = some (.struct (Tryd.prog.fieldsOf 38)) := by kernel_rfl
theorem stoodOp : Tryd.prog.stoodInHeld 38 = false := by kernel_rfl
theorem fieldsOpIs : Tryd.prog.fieldsOf 38 = #[{ name := "What", type := 3, offset := 0, embedded := false, tag := "", pkgPath := "", byteOffset := 0 }, { name := "A", type := 3, offset := 1, embedded := false, tag := "", pkgPath := "", byteOffset := 8 }, { name := "B", type := 3, offset := 2, embedded := false, tag := "", pkgPath := "", byteOffset := 16 }] := by kernel_rfl
theorem guardOp : Tryd.prog.eqGuardType Tryd.prog.depth 38 = false := by kernel_rfl
theorem neq_op (x y : O3) (w : World) : (binOp .neq 38 (.agg #[.int .i64 x.1, .int .i64 x.2.1, .int .i64 x.2.2]) (.agg #[.int .i64 y.1, .int .i64 y.2.1, .int .i64 y.2.2])).run Tryd.prog w = .ok (.bool (!(decide (x = y)))) w := by
  rw [run_neq_struct, run_equalIn_agg _ _ _ _ _ fieldsOp stoodOp, fieldsOpIs]
  obtain ⟨a, b, c⟩ := x
  obtain ⟨a', b', c'⟩ := y
  simp [go_sem, Tryd.underlying3]
  by_cases h1 : a = a' <;> by_cases h2 : b = b' <;> by_cases h3 : c = c' <;> simp [h1, h2, h3]

set_option maxRecDepth 1000000 in
set_option maxHeartbeats 4000000 in
theorem same_some (la lb : List O3) (a ao ac b bo bc : Nat) (w : World) (ha : a < w.heap.size) (hb : b < w.heap.size) (hlen : la.length = lb.length) (hl : la.length ≤ 1099511627776)
    (hca : ∀ (i : Nat) o, la[i]? = some o → w.cell? ⟨a, ao + i * 3, none⟩ = some (.int .i64 o.1) ∧ w.cell? ⟨a, ao + i * 3 + 1, none⟩ = some (.int .i64 o.2.1) ∧ w.cell? ⟨a, ao + i * 3 + 2, none⟩ = some (.int .i64 o.2.2))
    (hcb : ∀ (i : Nat) o, lb[i]? = some o → w.cell? ⟨b, bo + i * 3, none⟩ = some (.int .i64 o.1) ∧ w.cell? ⟨b, bo + i * 3 + 1, none⟩ = some (.int .i64 o.2.1) ∧ w.cell? ⟨b, bo + i * 3 + 2, none⟩ = some (.int .i64 o.2.2)) :
    Calls Tryd.prog 16 #[.slice (some ⟨a, ao, none⟩) la.length ac, .slice (some ⟨b, bo, none⟩) la.length bc] w fun e w' => e = .returned (.bool (decide (la = lb))) ∧ Below w.heap.size w w' := by
  have HL : Hid (la.length = lb.length) := hlen
  clear hlen
  go_enter Tryd.func16, Tryd.ntmps16
  go_wp2
  go_loopw [5] (fun i wr => ∃ k : Nat, k ≤ la.length ∧ i = .int .i64 k ∧ (∀ j : Nat, j < k → la[j]? = lb[j]?) ∧ Below w.heap.size w wr) (fun i _ => la.length - (intOf i).toNat)
  case atStart => exact ⟨0, Nat.zero_le _, rfl, fun j hj => by omega, Below.refl _ _⟩
  case round =>
    obtain ⟨k, hk, rfl, hall, hbw⟩ := hrel
    have HA : Hid (∀ j : Nat, j < k → la[j]? = lb[j]?) := hall
    clear hall
    by_cases hkl : k < la.length
    · obtain ⟨o, ho⟩ : ∃ o, la[k]? = some o := ⟨la[k], List.getElem?_eq_getElem hkl⟩
      obtain ⟨p, hp⟩ : ∃ p, lb[k]? = some p := ⟨lb[k]'(by rw [← HL.out]; exact hkl), List.getElem?_eq_getElem _⟩
      obtain ⟨c0, c1, c2⟩ := hca k o ho
      obtain ⟨d0, d1, d2⟩ := hcb k p hp
      have e0 := (hbw.cell (p := ⟨a, ao + k * 3, none⟩) ha).trans c0
      have e1 := (hbw.cell (p := ⟨a, ao + k * 3 + 1, none⟩) ha).trans c1
      have e2 := (hbw.cell (p := ⟨a, ao + k * 3 + 2, none⟩) ha).trans c2
      have f0 := (hbw.cell (p := ⟨b, bo + k * 3, none⟩) hb).trans d0
      have f1 := (hbw.cell (p := ⟨b, bo + k * 3 + 1, none⟩) hb).trans d1
      have f2 := (hbw.cell (p := ⟨b, bo + k * 3 + 2, none⟩) hb).trans d2
      have HO : Hid (la[k]? = some o) := ho
      have HP : Hid (lb[k]? = some p) := hp
      clear c0 c1 c2 d0 d1 d2 ho hp
      have hki : (k : Int) < (la.length : Int) := by omega
      have hgd := guardOp
      have hnq := neq_op o p
      by_cases hop : o = p
      · have hdd : decide (o = p) = true := by simpa using hop
        rw [hdd] at hnq
        have HE : Hid (o = p) := hop
        clear hop hdd
        go_wp2
        go_quiet (fail)
        go_wp2
        go_roundw
        case rel =>
          refine ⟨k + 1, by omega, by go_num, fun j hj => ?_, below_drewN hbw _⟩
          by_cases hjk : j < k
          · exact HA.out j hjk
          · obtain rfl : j = k := by omega
            rw [HO.out, HP.out, HE.out]
        case measure => simp [intOf]; omega
      · have hdd : decide (o = p) = false := by simpa using hop
        rw [hdd] at hnq
        have HN : Hid (decide (la = lb) = false) := by
          show _ = _
          simp only [decide_eq_false_iff_not]
          intro e
          have h1 := HO.out
          rw [e, HP.out] at h1
          exact hop (Option.some.inj h1).symm
        clear hop hdd
        go_wp2
        go_quiet (fail)
        go_wp2
        go_ret
        exact ⟨ret_bool HN.out.symm, below_drewN hbw _⟩
    · have HN : Hid (decide (la = lb) = true) := by
        show _ = _
        simp only [decide_eq_true_eq]
        apply List.ext_getElem?
        intro j
        by_cases hj : j < k
        · exact HA.out j hj
        · rw [List.getElem?_eq_none (by omega), List.getElem?_eq_none (by rw [← HL.out]; omega)]
      go_wp2
      go_ret
      exact ⟨ret_bool HN.out.symm, hbw⟩

set_option maxRecDepth 1000000 in
set_option maxHeartbeats 4000000 in
theorem same_other (n m ac bc : Nat) (a b : Option Addr) (w : World) (h : ((n : Int) == (m : Int)) = false) :
    Calls Tryd.prog 16 #[.slice a n ac, .slice b m bc] w fun e w' => e = .returned (.bool false) ∧ Below w.heap.size w w' := by
  go_enter Tryd.func16, Tryd.ntmps16
  go_wp2
  go_ret
  exact ⟨rfl, Below.refl _ _⟩
set_option maxRecDepth 1000000 in
set_option maxHeartbeats 4000000 in
theorem same_nil (ac bc : Nat) (a b : Option Addr) (w : World) :
    Calls Tryd.prog 16 #[.slice a 0 ac, .slice b 0 bc] w fun e w' => e = .returned (.bool true) ∧ Below w.heap.size w w' := by
  go_enter Tryd.func16, Tryd.ntmps16
  go_wp2
  refine wp_loop_rounds 1 ?_
  rw [rounds_succ]
  go_wp2
  go_ret
  exact ⟨rfl, Below.refl _ _⟩
theorem same_any (va vb : Value) (la lb : List O3) (w : World) (ha : Ops w va la) (hb : Ops w vb lb) (hl : la.length ≤ 1099511627776) :
    Calls Tryd.prog 16 #[va, vb] w fun e w' => e = .returned (.bool (decide (la = lb))) ∧ Below w.heap.size w w' := by
  by_cases hlen : la.length = lb.length
  · rcases ha with ⟨rfl, ao, ac, rfl⟩ | ⟨a, ao, ac, rfl, hlta, hca⟩
    · have hlb : lb = [] := List.eq_nil_of_length_eq_zero (by simpa using hlen.symm)
      subst hlb
      obtain ⟨bo, bc, hvb⟩ := hb.form
      rw [hvb]
      exact same_nil ac bc ao bo w
    · rcases hb with ⟨rfl, bo, bc, rfl⟩ | ⟨b, bo, bc, rfl, hltb, hcb⟩
      · have hla : la = [] := List.eq_nil_of_length_eq_zero (by simpa using hlen)
        subst hla
        exact same_nil ac bc _ bo w
      · rw [← hlen]
        exact same_some la lb a ao ac b bo bc w hlta hltb hlen hl hca hcb
  · obtain ⟨ao, ac, rfl⟩ := ha.form
    obtain ⟨bo, bc, rfl⟩ := hb.form
    rw [show decide (la = lb) = false by simp only [decide_eq_false_iff_not]; intro e; exact hlen (by rw [e])]
    exact same_other _ _ _ _ _ _ w (by simp; omega)
end Go.Proofs.YtajfgmlockjmhaeDoor
namespace Go.Proofs.YtajfgmlockjmhaeDoor
open Go.RowKit

theorem fieldsSp : Tryd.prog.underlying 41 = some (.struct (Tryd.prog.fieldsOf 41)) := by kernel_rfl
theorem stoodSp : Tryd.prog.stoodInHeld 41 = false := by kernel_rfl
theorem fieldsSpIs : Tryd.prog.fieldsOf 41 = #[{ name := "From", type := 3, offset := 0, embedded := false, tag := "", pkgPath := "", byteOffset := 0 }, { name := "To", type := 3, offset := 1, embedded := false, tag := "", pkgPath := "", byteOffset := 8 }, { name := "Room", type := 3, offset := 2, embedded := false, tag := "", pkgPath := "", byteOffset := 16 }] := by kernel_rfl
theorem guardSp : Tryd.prog.eqGuardType Tryd.prog.depth 41 = false := by kernel_rfl
theorem neq_sp (a b c : Int) (w : World) : (binOp .neq 41 (.agg #[.int .i64 a, .int .i64 b, .int .i64 c]) (.agg #[.int .i64 a, .int .i64 b, .int .i64 c])).run Tryd.prog w = .ok (.bool false) w := by
  rw [run_neq_struct, run_equalIn_agg _ _ _ _ _ fieldsSp stoodSp, fieldsSpIs]
  simp [go_sem, Tryd.underlying3]
theorem fieldsWr : Tryd.prog.underlying 58 = some (.struct (Tryd.prog.fieldsOf 58)) := by kernel_rfl
theorem stoodWr : Tryd.prog.stoodInHeld 58 = false := by kernel_rfl
theorem fieldsWrIs : Tryd.prog.fieldsOf 58 = #[{ name := "From", type := 3, offset := 0, embedded := false, tag := "", pkgPath := "", byteOffset := 0 }, { name := "To", type := 3, offset := 1, embedded := false, tag := "", pkgPath := "", byteOffset := 8 }, { name := "Kind", type := 3, offset := 2, embedded := false, tag := "", pkgPath := "", byteOffset := 16 }, { name := "Deep", type := 3, offset := 3, embedded := false, tag := "", pkgPath := "", byteOffset := 24 }] := by kernel_rfl
theorem guardWr : Tryd.prog.eqGuardType Tryd.prog.depth 58 = false := by kernel_rfl
theorem neq_wr (a b c d : Int) (w : World) : (binOp .neq 58 (.agg #[.int .i64 a, .int .i64 b, .int .i64 c, .int .i64 d]) (.agg #[.int .i64 a, .int .i64 b, .int .i64 c, .int .i64 d])).run Tryd.prog w = .ok (.bool false) w := by
  rw [run_neq_struct, run_equalIn_agg _ _ _ _ _ fieldsWr stoodWr, fieldsWrIs]
  simp [go_sem, Tryd.underlying3]
/-- Behind the boxes of two plans. -/
def Bx2 (w W : World) (x0 : Value) (n : Int) (x2 x3 : Value) (y0 y2 y3 : Value) : Prop := Below (w.heap.size + 2) ((w.alloc (.cells #[x0, .int .i64 n, x2, x3] 26)).alloc (.cells #[y0, .int .i64 n, y2, y3] 26)) W
theorem Bx2.size {w W : World} {x0 x2 x3 y0 y2 y3 : Value} {n : Int} (h : Bx2 w W x0 n x2 x3 y0 y2 y3) : w.heap.size + 2 ≤ W.heap.size := by
  have := Below.size h
  simpa using this
theorem Bx2.step {w W W' : World} {x0 x2 x3 y0 y2 y3 : Value} {n : Int} (h : Bx2 w W x0 n x2 x3 y0 y2 y3) (hb : Below W.heap.size W W') : Bx2 w W' x0 n x2 x3 y0 y2 y3 := Below.trans h (hb.mono h.size)
theorem Bx2.dN {w W : World} {x0 x2 x3 y0 y2 y3 : Value} {n : Int} (h : Bx2 w W x0 n x2 x3 y0 y2 y3) (k : Nat) : Bx2 w (W.drewN k) x0 n x2 x3 y0 y2 y3 := below_dN h k
theorem Bx2.below {w W : World} {x0 x2 x3 y0 y2 y3 : Value} {n : Int} (h : Bx2 w W x0 n x2 x3 y0 y2 y3) : Below w.heap.size w W := (((Below.refl _ _).alloc (Nat.le_refl _) _).alloc (by simp) _).trans (Below.mono h (by omega))
theorem Bx2.c {w W : World} {x0 x2 x3 y0 y2 y3 : Value} {n : Int} (h : Bx2 w W x0 n x2 x3 y0 y2 y3) : W.cell? ⟨w.heap.size, 0, none⟩ = some x0 ∧ W.cell? ⟨w.heap.size, 2, none⟩ = some x2 ∧ W.cell? ⟨w.heap.size, 3, none⟩ = some x3 ∧ W.cell? ⟨w.heap.size + 1, 0, none⟩ = some y0 ∧ W.cell? ⟨w.heap.size + 1, 2, none⟩ = some y2 ∧ W.cell? ⟨w.heap.size + 1, 3, none⟩ = some y3 :=
  ⟨(Below.cell h (p := ⟨w.heap.size, 0, none⟩) (by simp)).trans (by simp), (Below.cell h (p := ⟨w.heap.size, 2, none⟩) (by simp)).trans (by simp), (Below.cell h (p := ⟨w.heap.size, 3, none⟩) (by simp)).trans (by simp), (Below.cell h (p := ⟨w.heap.size + 1, 0, none⟩) (by simp)).trans (by simp), (Below.cell h (p := ⟨w.heap.size + 1, 2, none⟩) (by simp)).trans (by simp), (Below.cell h (p := ⟨w.heap.size + 1, 3, none⟩) (by simp)).trans (by simp)⟩

set_option maxRecDepth 1000000 in
set_option maxHeartbeats 8000000 in
theorem sameplan_any (p : PD) (xc xs xw yc ys yw : Value) (w : World) (hx : Pln w xc xs xw p) (hy : Pln w yc ys yw p) (l1 : p.code.length ≤ 1000) (l2 : p.spans.length ≤ 1000) (l3 : p.wires.length ≤ 1000) (l4 : ∀ c ∈ p.code, c.length ≤ 1000) :
    Calls Tryd.prog 14 #[plV xc p.ticks xs xw, plV yc p.ticks ys yw] w fun e w' => e = .returned (.bool true) ∧ Below w.heap.size w w' := by
  obtain ⟨xa, xb, rfl⟩ := hx.code.form
  obtain ⟨xd, xe, rfl⟩ := hx.spans.form
  obtain ⟨xf, xg, rfl⟩ := hx.wires.form
  obtain ⟨ya, yb, rfl⟩ := hy.code.form
  obtain ⟨yd, ye, rfl⟩ := hy.spans.form
  obtain ⟨yf, yg, rfl⟩ := hy.wires.form
  have HX : Hid (Pln w (.slice xa p.code.length xb) (.slice xd p.spans.length xe) (.slice xf p.wires.length xg) p) := hx
  have HY : Hid (Pln w (.slice ya p.code.length yb) (.slice yd p.spans.length ye) (.slice yf p.wires.length yg) p) := hy
  have HL : Hid (∀ c ∈ p.code, c.length ≤ 1000) := l4
  clear hx hy l4
  unfold plV
  have hb0 : Bx2 w _ (.slice xa p.code.length xb) p.ticks (.slice xd p.spans.length xe) (.slice xf p.wires.length xg) (.slice ya p.code.length yb) (.slice yd p.spans.length ye) (.slice yf p.wires.length yg) := Below.refl _ _
  go_enter Tryd.func14, Tryd.ntmps14
  go_wp2
  go_loopw [5] (fun i wr => ∃ k : Nat, k ≤ p.code.length ∧ i = .int .i64 k ∧ Bx2 w wr (.slice xa p.code.length xb) p.ticks (.slice xd p.spans.length xe) (.slice xf p.wires.length xg) (.slice ya p.code.length yb) (.slice yd p.spans.length ye) (.slice yf p.wires.length yg)) (fun i _ => p.code.length - (intOf i).toNat)
  case atStart => exact ⟨0, Nat.zero_le _, rfl, hb0⟩
  case round =>
  clear hb0
  obtain ⟨k, hk, rfl, hB⟩ := hrel
  obtain ⟨i0, i2, i3, j0, j2, j3⟩ := hB.c
  by_cases hkl : k < p.code.length
  · have hki : (k : Int) < (p.code.length : Int) := by omega
    obtain ⟨b, off, u, n, g, c, rfl, hlt, hc, d0, hn, ho⟩ := HX.out.code.at hkl
    obtain ⟨b', off', u', n', g', c', rfl, hlt', hc', d0', hn', ho'⟩ := HY.out.code.at hkl
    obtain rfl : c = c' := Option.some.inj (hc.symm.trans hc')
    replace d0 := (hB.below.cell (p := ⟨b, _, none⟩) hlt).trans d0
    replace d0' := (hB.below.cell (p := ⟨b', _, none⟩) hlt').trans d0'
    have q1 := same_any (.slice u n g) (.slice u' n' g') c c wr.drew ((ho.all hB.below).all (Below.refl _ _).drew) ((ho'.all hB.below).all (Below.refl _ _).drew) (by have := HL.out c (List.mem_of_getElem? hc); omega)
    rw [decide_eq_true rfl] at q1
    clear hc hc' hn hn' ho ho' i2 i3 j2 j3
    go_wp2
    go_region_with (go_at_call 16; refine q1.mono ?_; rintro e w1 ⟨rfl, b1⟩)
    all_goals (
      go_wp2
      go_roundw
      case rel => exact ⟨k + 1, by omega, by go_num, hB.step (((Below.refl _ wr).drew).trans b1)⟩
      case measure => simp [intOf]; omega)
  have hki : decide ((k : Int) < (p.code.length : Int)) = false := decide_eq_false (by omega)
  have hkn : decide (k < p.code.length) = false := decide_eq_false (by omega)
  go_wp2
  rename World => wo
  go_loopw [7] (fun i wr => ∃ k : Nat, k ≤ p.spans.length ∧ i = .int .i64 k ∧ Bx2 w wr (.slice xa p.code.length xb) p.ticks (.slice xd p.spans.length xe) (.slice xf p.wires.length xg) (.slice ya p.code.length yb) (.slice yd p.spans.length ye) (.slice yf p.wires.length yg)) (fun i _ => p.spans.length - (intOf i).toNat)
  case atStart => exact ⟨0, Nat.zero_le _, rfl, hB⟩
  case round =>
  clear hB i0 i2 i3 j0 j2 j3 hkl hki hkn hk
  obtain ⟨k, hk, rfl, hB⟩ := hrel
  obtain ⟨i0, i2, i3, j0, j2, j3⟩ := hB.c
  by_cases hkl : k < p.spans.length
  · have hki : (k : Int) < (p.spans.length : Int) := by omega
    obtain ⟨b, off, f, t, r, rfl, hlt, hc, d0, d1, d2⟩ := HX.out.spans.at hkl
    obtain ⟨b', off', f', t', r', rfl, hlt', hc', d0', d1', d2'⟩ := HY.out.spans.at hkl
    obtain ⟨rfl, rfl, rfl⟩ : f = f' ∧ t = t' ∧ r = r' := by have := Option.some.inj (hc.symm.trans hc'); simpa using this
    replace d0 := (hB.below.cell (p := ⟨b, _, none⟩) hlt).trans d0
    replace d1 := (hB.below.cell (p := ⟨b, _, none⟩) hlt).trans d1
    replace d2 := (hB.below.cell (p := ⟨b, _, none⟩) hlt).trans d2
    replace d0' := (hB.below.cell (p := ⟨b', _, none⟩) hlt').trans d0'
    replace d1' := (hB.below.cell (p := ⟨b', _, none⟩) hlt').trans d1'
    replace d2' := (hB.below.cell (p := ⟨b', _, none⟩) hlt').trans d2'
    have hgd := guardSp
    have hnq := neq_sp f t r
    clear hc hc' i0 i3 j0 j3
    go_wp2
    go_quiet (fail)
    go_wp2
    go_roundw
    case rel => exact ⟨k + 1, by omega, by go_num, hB.dN _⟩
    case measure => simp [intOf]; omega
  have hki : decide ((k : Int) < (p.spans.length : Int)) = false := decide_eq_false (by omega)
  have hkn : decide (k < p.spans.length) = false := decide_eq_false (by omega)
  go_wp2
  rename World => wp
  go_loopw [8] (fun i wr => ∃ k : Nat, k ≤ p.wires.length ∧ i = .int .i64 k ∧ Bx2 w wr (.slice xa p.code.length xb) p.ticks (.slice xd p.spans.length xe) (.slice xf p.wires.length xg) (.slice ya p.code.length yb) (.slice yd p.spans.length ye) (.slice yf p.wires.length yg)) (fun i _ => p.wires.length - (intOf i).toNat)
  case atStart => exact ⟨0, Nat.zero_le _, rfl, hB⟩
  case round =>
  clear hB i0 i2 i3 j0 j2 j3 hkl hki hkn hk
  obtain ⟨k, hk, rfl, hB⟩ := hrel
  obtain ⟨i0, i2, i3, j0, j2, j3⟩ := hB.c
  by_cases hkl : k < p.wires.length
  · have hki : (k : Int) < (p.wires.length : Int) := by omega
    obtain ⟨b, off, f, t, kd, d, rfl, hlt, hc, d0, d1, d2, d3⟩ := HX.out.wires.at hkl
    obtain ⟨b', off', f', t', kd', d', rfl, hlt', hc', d0', d1', d2', d3'⟩ := HY.out.wires.at hkl
    obtain ⟨rfl, rfl, rfl, rfl⟩ : f = f' ∧ t = t' ∧ kd = kd' ∧ d = d' := by have := Option.some.inj (hc.symm.trans hc'); simpa using this
    replace d0 := (hB.below.cell (p := ⟨b, _, none⟩) hlt).trans d0
    replace d1 := (hB.below.cell (p := ⟨b, _, none⟩) hlt).trans d1
    replace d2 := (hB.below.cell (p := ⟨b, _, none⟩) hlt).trans d2
    replace d3 := (hB.below.cell (p := ⟨b, _, none⟩) hlt).trans d3
    replace d0' := (hB.below.cell (p := ⟨b', _, none⟩) hlt').trans d0'
    replace d1' := (hB.below.cell (p := ⟨b', _, none⟩) hlt').trans d1'
    replace d2' := (hB.below.cell (p := ⟨b', _, none⟩) hlt').trans d2'
    replace d3' := (hB.below.cell (p := ⟨b', _, none⟩) hlt').trans d3'
    have hgd := guardWr
    have hnq := neq_wr f t kd d
    clear hc hc' i0 i2 j0 j2
    go_wp2
    go_quiet (fail)
    go_wp2
    go_roundw
    case rel => exact ⟨k + 1, by omega, by go_num, hB.dN _⟩
    case measure => simp [intOf]; omega
  have hki : decide ((k : Int) < (p.wires.length : Int)) = false := decide_eq_false (by omega)
  have hkn : decide (k < p.wires.length) = false := decide_eq_false (by omega)
  go_wp2
  go_ret
  exact ⟨rfl, hB.below⟩
end Go.Proofs.YtajfgmlockjmhaeDoor
