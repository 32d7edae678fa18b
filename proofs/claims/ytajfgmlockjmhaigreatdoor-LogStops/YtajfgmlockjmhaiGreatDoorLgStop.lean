/-
  The law LogStops: the walk, under what package log does.
-/
import Derived.Test.YtajfgmlockjmhaiGreatDoorJa15
import Derived.Test.YtajfgmlockjmhaiGreatDoorJa13
import Derived.Test.YtajfgmlockjmhaiGreatDoorJa23
import Derived.Deep.CutRange
import Derived.Deep.RegionWith
import Derived.BigQuiet
import Derived.RangeFuncNested
namespace Go.Proofs.YtajfgmlockjmhaiGreatDoor
open Go.RowKit

/-- What comes of the two calls of a round. -/
def st1 (a s : Int) : Int := if a < s then 6 else 1
def st2 (a s : Int) : Int := if s < a then 0 else 6
theorem st_go {G : World → Prop} (C : LogC G) {w0 W : World} {cb : Nat} {F : List Nat} {d : LgD} {a : Int} {i : Nat} (hG : G w0) (hK : C.K w0 W toyS d cb F) (h : Stps toyS a i d) (hi : i < 15) (ht : (d.k toyS).time ≤ i) :
    Calls Tryz.prog 19 #[.pointer (some ⟨cb, 0, none⟩), .int .i64 101] W fun e w1 => e = .returned (wErr (st1 a i)) ∧
      Calls Tryz.prog 19 #[.pointer (some ⟨cb, 0, none⟩), .int .i64 1] w1 fun e w2 => e = .returned (wErr (st2 a i)) ∧ ∃ d' F', C.K w0 w2 toyS d' cb F' ∧ Stps toyS a ((i : Int) + 1) d' ∧ (d'.k toyS).time ≤ (i : Int) + 1 := by
  refine (C.go 101 hG hK toyS_ok h.ok).mono ?_
  rintro e w1 ⟨rfl, sz, F1, h2, h3, hK1, _, _⟩
  have htm : (d.k toyS).time + 1 ≤ 2000 := by omega
  by_cases hs : a < (i : Int)
  · have hst := h.off hs
    obtain ⟨e1, e2⟩ := go_stopped (p := toyS) hst 101 sz
    rw [e1]
    rw [e2] at hK1
    refine ⟨by unfold st1; rw [if_pos hs], ?_⟩
    refine (C.go 1 hG hK1 toyS_ok h.ok).mono ?_
    rintro e w2 ⟨rfl, sz2, F2, _, _, hK2, _, _⟩
    obtain ⟨e3, e4⟩ := go_stopped (p := toyS) hst 1 sz2
    rw [e3]
    rw [e4] at hK2
    exact ⟨by unfold st2; rw [if_neg (by omega)], d, F2, hK2, ⟨h.ok, h.tm, h.len, h.ab, fun hh => by omega, fun _ => hst⟩, by omega⟩
  · obtain ⟨hst, hfl⟩ := h.on (by omega)
    obtain ⟨e1, e2⟩ := go_out (p := toyS) hst (n := 101) (Or.inr (by decide)) sz
    rw [e1]
    rw [e2] at hK1
    refine ⟨by unfold st1; rw [if_neg hs], ?_⟩
    refine (C.go 1 hG hK1 toyS_ok h.ok).mono ?_
    rintro e w2 ⟨rfl, sz2, F2, h4, h5, hK2, _, _⟩
    have hl0 := h.len
    have hab := h.ab
    have hok2 := goL_ok (p := toyS) (n := 1) h.ok h4 h5 (by omega)
    by_cases hq : (i : Int) < a
    · obtain ⟨e3, e4, e5⟩ := go_done (p := toyS) hst (by omega) (n := 1) (by decide) (by decide) htm sz2
      rw [e3]
      have hl2 : ((goL toyS d 1 sz2).recs.length : Int) = (d.recs.length : Int) + 1 := by
        rw [e4]
        show ((d.recs ++ [(LStp.go (Int.toNat 1), sz2)]).length : Int) = _
        rw [List.length_append, List.length_singleton]
        omega
      refine ⟨by unfold st2; rw [if_pos hq], _, F2, hK2, ⟨hok2, by omega, by omega, h.ab, fun hh => ?_, fun hh => by omega⟩, by omega⟩
      rw [e4]
      refine ⟨hst, ?_⟩
      show d.less = _
      rw [less_in (by omega) (by omega)]
      omega
    · obtain ⟨e3, e4⟩ := go_stops (p := toyS) hst (by omega) (n := 1) (by decide) (by decide) htm sz2
      rw [e3]
      have hk : (goL toyS d 1 sz2).k toyS = d.k toyS := by
        rw [e4]
        rfl
      exact ⟨by unfold st2; rw [if_neg hq], _, F2, hK2, ⟨hok2, by rw [hk]; exact h.tm, by rw [hk, e4]; exact h.len, h.ab, fun hh => by omega, fun _ => by rw [e4]⟩, by rw [hk]; omega⟩
theorem st_sync {G : World → Prop} {C : LogC G} (CS : LogSync C) {w0 W : World} {cb : Nat} {F : List Nat} {d : LgD} {a : Int} {i : Nat} (hG : G w0) (hK : C.K w0 W toyS d cb F) (h : Stps toyS a i d) (hi : (i : Int) ≤ a) :
    Calls Tryz.prog 20 #[.pointer (some ⟨cb, 0, none⟩)] W fun e w1 => e = .returned (wErr (st2 a i)) ∧ ∃ d' F', C.K w0 w1 toyS d' cb F' ∧ Stps toyS a ((i : Int) + 1) d' := by
  refine (CS hG hK toyS_ok h.ok).mono ?_
  rintro e w1 ⟨rfl, F1, hK1, _, _⟩
  obtain ⟨hst, hfl⟩ := h.on hi
  have hok2 := syncL_ok h.ok
  have hab := h.ab
  by_cases hq : (i : Int) < a
  · obtain ⟨e3, e4⟩ := sync_done hst (by omega)
    rw [e3]
    have hk : (syncL d).k toyS = d.k toyS := by
      rw [e4]
      rfl
    refine ⟨by unfold st2; rw [if_pos hq], _, F1, hK1, ⟨hok2, by rw [hk]; exact h.tm, by rw [hk, e4]; exact h.len, h.ab, fun hh => ?_, fun hh => by omega⟩⟩
    rw [e4]
    refine ⟨hst, ?_⟩
    show d.less = _
    rw [less_in (by omega) (by omega)]
    omega
  · obtain ⟨e3, e4⟩ := sync_stops hst (by omega)
    rw [e3]
    have hk : (syncL d).k toyS = d.k toyS := by
      rw [e4]
      rfl
    exact ⟨by unfold st2; rw [if_neg hq], _, F1, hK1, ⟨hok2, by rw [hk]; exact h.tm, by rw [hk, e4]; exact h.len, h.ab, fun hh => by omega, fun _ => by rw [e4]⟩⟩
/-- All is refused, it crashes, and all goes on. -/
theorem st_end {G : World → Prop} {C : LogC G} (CS : LogSync C) (CP : LogPoke C) (CC : LogCrash C) {w0 W : World} {cb : Nat} {F : List Nat} {d : LgD} {a : Int} {i : Nat} (hG : G w0) (hK : C.K w0 W toyS d cb F) (h : Stps toyS a i d) (hi : a < (i : Int)) (keep : Int) :
    Calls Tryz.prog 20 #[.pointer (some ⟨cb, 0, none⟩)] W fun e w1 => e = .returned (wErr 6) ∧ Below w0.heap.size w0 w1 ∧
      Calls Tryz.prog 21 #[.pointer (some ⟨cb, 0, none⟩), .int .i64 0, .int .i64 0, .int .i64 1] w1 fun e w2 => e = .returned (wErr 6) ∧ Below w0.heap.size w0 w2 ∧ ∀ w3, Below w2.heap.size w2 w3 →
        Calls Tryz.prog 22 #[.pointer (some ⟨cb, 0, none⟩), .int .i64 keep] w3 fun e w4 => (∃ v, e = .returned v) ∧ ∃ d4 F4, C.K w0 w4 toyS d4 cb F4 ∧ LOk toyS d4 ∧ d4.stop = false ∧ d4.fail = -1 ∧ 0 ≤ (d4.k toyS).time ∧ (d4.k toyS).time ≤ 15 ∧ d4.recs.length < 40 := by
  have hst := h.off hi
  refine (CS hG hK toyS_ok h.ok).mono ?_
  rintro e w1 ⟨rfl, F1, hK1, _, _⟩
  obtain ⟨e1, e2⟩ := sync_stopped hst
  rw [e1]
  rw [e2] at hK1
  refine ⟨rfl, C.since hK1, ?_⟩
  refine (CP 0 0 1 hG hK1 toyS_ok h.ok).mono ?_
  rintro e w2 ⟨rfl, sz, F2, _, _, hK2, _, _⟩
  obtain ⟨e3, e4⟩ := poke_stopped (p := toyS) hst 0 0 1 sz
  rw [e3]
  rw [e4] at hK2
  refine ⟨rfl, C.since hK2, fun w3 hb => ?_⟩
  refine (CC keep hG (C.frame hK2 (KTouch.of (M := []) hb) (by simp)) toyS_ok h.ok).mono ?_
  rintro e w4 ⟨hv, F4, hK4, _, _⟩
  have := crash_time (p := toyS) (d := d) keep
  have htm := h.tm
  have hln := h.len
  refine ⟨hv, _, F4, hK4, crashL_ok h.ok keep, rfl, rfl, (redo_ok toyS_ok _).time, by omega, ?_⟩
  obtain ⟨m, hm⟩ := wholeR_pre (d.high keep) d.recs
  show (wholeR (d.high keep) d.recs).length < 40
  rw [hm, List.length_take]
  omega
theorem st_last {G : World → Prop} {C : LogC G} (CS : LogSync C) {w0 W : World} {cb : Nat} {F : List Nat} {d : LgD} (hG : G w0) (hK : C.K w0 W toyS d cb F) (hok : LOk toyS d) (hs : d.stop = false) (hf : d.fail = -1) (ht : (d.k toyS).time ≤ 15) (hln : d.recs.length < 40) :
    Calls Tryz.prog 19 #[.pointer (some ⟨cb, 0, none⟩), .int .i64 2] W fun e w1 => e = .returned .nilIface ∧
      Calls Tryz.prog 20 #[.pointer (some ⟨cb, 0, none⟩)] w1 fun e w2 => e = .returned .nilIface ∧ ∃ d' F', C.K w0 w2 toyS d' cb F' ∧ LOk toyS d' ∧ (d'.k toyS).time = (d.k toyS).time + 2 ∧ d'.safe = d'.bytes := by
  refine (C.go 2 hG hK toyS_ok hok).mono ?_
  rintro e w1 ⟨rfl, sz, F1, h2, h3, hK1, _, _⟩
  obtain ⟨e1, e2, e3⟩ := go_done (p := toyS) hs (by omega) (n := 2) (by decide) (by decide) (by omega) sz
  have hok1 := goL_ok (p := toyS) (n := 2) hok h2 h3 hln
  have hs1 : (goL toyS d 2 sz).stop = false := by rw [e2]; exact hs
  have hf1 : (goL toyS d 2 sz).fail = -1 := by
    rw [e2]
    show d.less = _
    unfold LgD.less
    rw [if_neg (by omega)]
    exact hf
  rw [e1]
  refine ⟨rfl, ?_⟩
  refine (CS hG hK1 toyS_ok hok1).mono ?_
  rintro e w2 ⟨rfl, F2, hK2, _, _⟩
  obtain ⟨e4, e5⟩ := sync_done hs1 (by rw [hf1]; decide)
  rw [e4]
  refine ⟨rfl, _, F2, hK2, syncL_ok hok1, ?_, ?_⟩
  · rw [e5, ← e3]
    rfl
  · rw [e5]
    rfl
set_option maxRecDepth 100000 in
set_option maxHeartbeats 8000000 in
theorem lstops_of {G : World → Prop} (C : LogC G) (CP : LogPoke C) (CS : LogSync C) (CF : LogFail C) (CC : LogCrash C) (CT : LogRd C 23 (fun d p => .int .i64 (d.k p).time)) (CB : LogRd C 25 (fun d _ => .int .i64 (d.bytes : Nat))) (CA : LogRd C 24 (fun d _ => .int .i64 (d.safe : Nat))) (hE : ∀ (e k : Int) (W : World), G W → Calls Tryz.prog 15 #[wErr e, .int .i64 k] W fun r w' => r = .returned (.bool (decide (e = k))) ∧ Below W.heap.size W w')
    (a m keep : Int) (w : World) (hG : G w) :
    Calls Tryz.prog 5 #[.int .i64 a, .int .i64 m, .int .i64 keep] w fun e w' => e = .returned (.bool true) ∧ Below w.heap.size w w' := by
  have HG : Hid (∀ W, Below w.heap.size w W → G W) := fun W hb => C.all w W hG hb
  have hpl := toyS_pln w w.heap.size rfl
  have hA : Below w.heap.size w ((w.alloc (.cells #[.int .i64 10, .int .i64 0, .int .i64 0] 28)).alloc (.cells #[.slice (some ⟨w.heap.size, 0, none⟩) 1 1] 29)) := ((Below.refl _ _).alloc (Nat.le_refl _) _).alloc (by simp) _
  have q0 := C.new toyS _ _ _ _ (HG.out _ hA) hpl toyS_ok
  have HQ0 : Hid (Calls Tryz.prog 17 #[.agg #[.slice (some ⟨w.heap.size + 1, 0, none⟩) 1 1, .int .i64 1, .slice none 0 0, .slice none 0 0]] ((w.alloc (.cells #[.int .i64 10, .int .i64 0, .int .i64 0] 28)).alloc (.cells #[.slice (some ⟨w.heap.size, 0, none⟩) 1 1] 29)) fun e w' => ∃ cb F, e = .returned (.tuple #[.pointer (some ⟨cb, 0, none⟩), .nilIface]) ∧ C.K ((w.alloc (.cells #[.int .i64 10, .int .i64 0, .int .i64 0] 28)).alloc (.cells #[.slice (some ⟨w.heap.size, 0, none⟩) 1 1] 29)) w' toyS newL cb F) := q0
  clear q0 hpl
  have HE : Hid (∀ (e k : Int) (W : World), Below w.heap.size w W → Calls Tryz.prog 15 #[wErr e, .int .i64 k] W fun r w' => r = .returned (.bool (decide (e = k))) ∧ Below W.heap.size W w') := fun e k W hb => hE e k W (HG.out W hb)
  clear hE hG
  have hbad : (a < 0 ∨ 15 < a ∨ m < 0 ∨ 15 < m) ∨ (0 ≤ a ∧ a ≤ 15 ∧ 0 ≤ m ∧ m ≤ 15) := by omega
  rcases hbad with hbad | ⟨ha0, ha1, hm0, hm1⟩
  · have hw : ∃ b1 b2 b3 b4 : Bool, decide (a < 0) = b1 ∧ decide (15 < a) = b2 ∧ decide (m < 0) = b3 ∧ decide (15 < m) = b4 ∧ (b1 || b2 || b3 || b4) = true := ⟨_, _, _, _, rfl, rfl, rfl, rfl, by
      simp only [Bool.or_eq_true, decide_eq_true_eq]
      omega⟩
    obtain ⟨b1, b2, b3, b4, d1, d2, d3, d4, hb⟩ := hw
    clear hbad
    cases b1 with
    | true =>
      clear hb
      go_enter Tryz.func5, Tryz.ntmps5
      go_wp2_with (go_at_call 17; refine HQ0.out.mono ?_; rintro e w1 ⟨cb, F, rfl, hK⟩)
      go_ret
      exact ⟨rfl, hA.trans ((C.since hK).mono hA.size)⟩
    | false =>
      cases b2 with
      | true =>
        clear hb
        go_enter Tryz.func5, Tryz.ntmps5
        go_wp2_with (go_at_call 17; refine HQ0.out.mono ?_; rintro e w1 ⟨cb, F, rfl, hK⟩)
        go_ret
        exact ⟨rfl, hA.trans ((C.since hK).mono hA.size)⟩
      | false =>
        cases b3 with
        | true =>
          clear hb
          go_enter Tryz.func5, Tryz.ntmps5
          go_wp2_with (go_at_call 17; refine HQ0.out.mono ?_; rintro e w1 ⟨cb, F, rfl, hK⟩)
          go_ret
          exact ⟨rfl, hA.trans ((C.since hK).mono hA.size)⟩
        | false =>
          cases b4 with
          | true =>
            clear hb
            go_enter Tryz.func5, Tryz.ntmps5
            go_wp2_with (go_at_call 17; refine HQ0.out.mono ?_; rintro e w1 ⟨cb, F, rfl, hK⟩)
            go_ret
            exact ⟨rfl, hA.trans ((C.since hK).mono hA.size)⟩
          | false => cases hb
  have d1 : decide (a < 0) = false := decide_eq_false (by omega)
  have d2 : decide (15 < a) = false := decide_eq_false (by omega)
  have d3 : decide (m < 0) = false := decide_eq_false (by omega)
  have d4 : decide (15 < m) = false := decide_eq_false (by omega)
  go_enter Tryz.func5, Tryz.ntmps5
  go_upto_region 4 with (go_at_call 17; refine HQ0.out.mono ?_; rintro e w1 ⟨cb, F, rfl, hK⟩)
  generalize (w.alloc (.cells #[.int .i64 10, .int .i64 0, .int .i64 0] 28)).alloc (.cells #[.slice (some ⟨w.heap.size, 0, none⟩) 1 1] 29) = w0 at *
  have HG0 : Hid (G w0) := HG.out _ hA
  have HBW : Hid (∀ W, Below w0.heap.size w0 W → Below w.heap.size w W) := fun W hb => hA.trans (hb.mono hA.size)
  have q1 := CF a HG0.out hK toyS_ok newL_ok
  have hst0 : Stps toyS a ((0 : Nat) : Int) (failL newL a) := ⟨failL_ok newL_ok a, by show (0 : Int) ≤ 15; omega, Int.le_refl _, by omega, fun _ => ⟨rfl, by show a = a - 0; omega⟩, fun hh => by exfalso; have : ((0 : Nat) : Int) = 0 := rfl; omega⟩
  have ht0 : ((failL newL a).k toyS).time ≤ ((0 : Nat) : Int) := Int.le_refl _
  clear HQ0 d1 d2 d3 d4 hK
  generalize failL newL a = df at q1 hst0 ht0
  go_upto_region 7 with (go_at_call 18; refine q1.mono ?_; rintro e w2 ⟨⟨v, rfl⟩, F2, hK2, _, _⟩; clear q1)
  obtain ⟨mn, rfl⟩ : ∃ n : Nat, m = n := ⟨m.toNat, by omega⟩
  go_loopw [9, 10] (fun s9 s10 wr => ∃ (i : Nat) (d : LgD) (F : List Nat), i ≤ mn ∧ s9 = .int .i64 i ∧ s10 = .int .i64 i ∧ Stps toyS a i d ∧ (d.k toyS).time ≤ i ∧ C.K w0 wr toyS d cb F) (fun _ s _ => mn - (intOf s).toNat)
  case atStart => exact ⟨0, df, F2, Nat.zero_le _, rfl, rfl, hst0, ht0, hK2⟩
  case round =>
  clear hst0 ht0 hK2
  obtain ⟨i, d, F3, hi, rfl, rfl, hst, htm, hK⟩ := hrel
  by_cases him : i < mn
  case pos =>
    have him' : (i : Int) < (mn : Int) := by omega
    have q1 := st_go C HG0.out hK hst (by omega) htm
    clear hst hK
    rcases Int.lt_trichotomy (i : Int) a with hia | hia | hia
    · have d1 : decide (a < (i : Int)) = false := decide_eq_false (by omega)
      have d2 : decide ((i : Int) ≤ a) = true := decide_eq_true (by omega)
      have d3 : ((i : Int) == a) = false := beq_eq_false_iff_ne.2 (by omega)
      have d4 : decide ((i : Int) < a) = true := decide_eq_true (by omega)
      have HV : Hid (st1 a i = 1 ∧ st2 a i = 0) := ⟨by unfold st1; rw [if_neg (by omega)], by unfold st2; rw [if_pos (by omega)]⟩
      rw [HV.out.1, HV.out.2, show wErr 1 = .iface 93 (.int .i64 1) from rfl, show wErr 0 = .nilIface from rfl] at q1
      have HE1 : Hid (∀ W, Below w.heap.size w W → Calls Tryz.prog 15 #[.iface 93 (.int .i64 1), .int .i64 6] W fun r w' => r = .returned (.bool false) ∧ Below W.heap.size W w') := fun W hb => HE.out 1 6 W hb
      have HE2 : Hid (∀ W, Below w.heap.size w W → Calls Tryz.prog 15 #[.iface 93 (.int .i64 1), .int .i64 1] W fun r w' => r = .returned (.bool true) ∧ Below W.heap.size W w') := fun W hb => HE.out 1 1 W hb
      have HE3 : Hid (∀ W, Below w.heap.size w W → Calls Tryz.prog 15 #[.nilIface, .int .i64 6] W fun r w' => r = .returned (.bool false) ∧ Below W.heap.size W w') := fun W hb => HE.out 0 6 W hb
      clear hia HV
      go_wp2_with (first
        | (go_at_call 19; refine q1.mono ?_; rintro e w5 ⟨rfl, q2⟩; clear q1)
        | (go_at_call 19; refine q2.mono ?_; rintro e w6 ⟨rfl, d6, F6, hK6, hst6, ht6⟩; clear q2; have hb6 := HBW.out _ (C.since hK6); have q3 := HE1.out w6 hb6)
        | (go_at_call 15; refine q3.mono ?_; rintro e w7 ⟨rfl, b7⟩; clear q3; have hb7 := hb6.trans (b7.mono hb6.size); have q4 := HE2.out w7 hb7)
        | (go_at_call 15; refine q4.mono ?_; rintro e w8 ⟨rfl, b8⟩; clear q4; have hb8 := hb7.trans (b8.mono hb7.size); have q5 := HE3.out w8 hb8)
        | (go_at_call 15; refine q5.mono ?_; rintro e w9 ⟨rfl, b9⟩; clear q5))
      have hK9 := C.frame hK6 (KTouch.of (M := []) (b7.trans ((b8.trans (b9.mono b8.size)).mono b7.size))) (by simp)
      go_roundw
      case rel => exact ⟨i + 1, d6, F6, by omega, by go_num, by go_num, by exact_mod_cast hst6, by exact_mod_cast ht6, hK9⟩
      case measure => simp [intOf]; omega
    · have d1 : decide (a < (i : Int)) = false := decide_eq_false (by omega)
      have d2 : decide ((i : Int) ≤ a) = true := decide_eq_true (by omega)
      have d3 : ((i : Int) == a) = true := beq_iff_eq.2 (by omega)
      have d4 : decide ((i : Int) < a) = false := decide_eq_false (by omega)
      have HV : Hid (st1 a i = 1 ∧ st2 a i = 6) := ⟨by unfold st1; rw [if_neg (by omega)], by unfold st2; rw [if_neg (by omega)]⟩
      rw [HV.out.1, HV.out.2, show wErr 1 = .iface 93 (.int .i64 1) from rfl, show wErr 6 = .iface 93 (.int .i64 6) from rfl] at q1
      have HE1 : Hid (∀ W, Below w.heap.size w W → Calls Tryz.prog 15 #[.iface 93 (.int .i64 1), .int .i64 6] W fun r w' => r = .returned (.bool false) ∧ Below W.heap.size W w') := fun W hb => HE.out 1 6 W hb
      have HE2 : Hid (∀ W, Below w.heap.size w W → Calls Tryz.prog 15 #[.iface 93 (.int .i64 1), .int .i64 1] W fun r w' => r = .returned (.bool true) ∧ Below W.heap.size W w') := fun W hb => HE.out 1 1 W hb
      have HE3 : Hid (∀ W, Below w.heap.size w W → Calls Tryz.prog 15 #[.iface 93 (.int .i64 6), .int .i64 6] W fun r w' => r = .returned (.bool true) ∧ Below W.heap.size W w') := fun W hb => HE.out 6 6 W hb
      clear hia HV
      go_wp2_with (first
        | (go_at_call 19; refine q1.mono ?_; rintro e w5 ⟨rfl, q2⟩; clear q1)
        | (go_at_call 19; refine q2.mono ?_; rintro e w6 ⟨rfl, d6, F6, hK6, hst6, ht6⟩; clear q2; have hb6 := HBW.out _ (C.since hK6); have q3 := HE1.out w6 hb6)
        | (go_at_call 15; refine q3.mono ?_; rintro e w7 ⟨rfl, b7⟩; clear q3; have hb7 := hb6.trans (b7.mono hb6.size); have q4 := HE2.out w7 hb7)
        | (go_at_call 15; refine q4.mono ?_; rintro e w8 ⟨rfl, b8⟩; clear q4; have hb8 := hb7.trans (b8.mono hb7.size); have q5 := HE3.out w8 hb8)
        | (go_at_call 15; refine q5.mono ?_; rintro e w9 ⟨rfl, b9⟩; clear q5))
      have hK9 := C.frame hK6 (KTouch.of (M := []) (b7.trans ((b8.trans (b9.mono b8.size)).mono b7.size))) (by simp)
      go_roundw
      case rel => exact ⟨i + 1, d6, F6, by omega, by go_num, by go_num, by exact_mod_cast hst6, by exact_mod_cast ht6, hK9⟩
      case measure => simp [intOf]; omega
    · have d1 : decide (a < (i : Int)) = true := decide_eq_true (by omega)
      have d2 : decide ((i : Int) ≤ a) = false := decide_eq_false (by omega)
      have d3 : ((i : Int) == a) = false := beq_eq_false_iff_ne.2 (by omega)
      have d4 : decide ((i : Int) < a) = false := decide_eq_false (by omega)
      have HV : Hid (st1 a i = 6 ∧ st2 a i = 6) := ⟨by unfold st1; rw [if_pos (by omega)], by unfold st2; rw [if_neg (by omega)]⟩
      rw [HV.out.1, HV.out.2, show wErr 6 = .iface 93 (.int .i64 6) from rfl] at q1
      have HE1 : Hid (∀ W, Below w.heap.size w W → Calls Tryz.prog 15 #[.iface 93 (.int .i64 6), .int .i64 6] W fun r w' => r = .returned (.bool true) ∧ Below W.heap.size W w') := fun W hb => HE.out 6 6 W hb
      have HE2 : Hid (∀ W, Below w.heap.size w W → Calls Tryz.prog 15 #[.iface 93 (.int .i64 6), .int .i64 1] W fun r w' => r = .returned (.bool false) ∧ Below W.heap.size W w') := fun W hb => HE.out 6 1 W hb
      have HE3 : Hid (∀ W, Below w.heap.size w W → Calls Tryz.prog 15 #[.iface 93 (.int .i64 6), .int .i64 6] W fun r w' => r = .returned (.bool true) ∧ Below W.heap.size W w') := fun W hb => HE.out 6 6 W hb
      clear hia HV
      go_wp2_with (first
        | (go_at_call 19; refine q1.mono ?_; rintro e w5 ⟨rfl, q2⟩; clear q1)
        | (go_at_call 19; refine q2.mono ?_; rintro e w6 ⟨rfl, d6, F6, hK6, hst6, ht6⟩; clear q2; have hb6 := HBW.out _ (C.since hK6); have q3 := HE1.out w6 hb6)
        | (go_at_call 15; refine q3.mono ?_; rintro e w7 ⟨rfl, b7⟩; clear q3; have hb7 := hb6.trans (b7.mono hb6.size); have q4 := HE2.out w7 hb7)
        | (go_at_call 15; refine q4.mono ?_; rintro e w8 ⟨rfl, b8⟩; clear q4; have hb8 := hb7.trans (b8.mono hb7.size); have q5 := HE3.out w8 hb8)
        | (go_at_call 15; refine q5.mono ?_; rintro e w9 ⟨rfl, b9⟩; clear q5))
      have hK9 := C.frame hK6 (KTouch.of (M := []) (b7.trans ((b8.trans (b9.mono b8.size)).mono b7.size))) (by simp)
      go_roundw
      case rel => exact ⟨i + 1, d6, F6, by omega, by go_num, by go_num, by exact_mod_cast hst6, by exact_mod_cast ht6, hK9⟩
      case measure => simp [intOf]; omega
  have him' : decide ((i : Int) < (mn : Int)) = false := decide_eq_false (by omega)
  have him2 : decide (i < mn) = false := decide_eq_false him
  clear htm
  go_upto_region 17 with fail
  go_loopw [9] (fun s9 wr => ∃ (j : Nat) (d : LgD) (F : List Nat), j ≤ 16 ∧ s9 = .int .i64 j ∧ Stps toyS a j d ∧ C.K w0 wr toyS d cb F) (fun s _ => 16 - (intOf s).toNat)
  case atStart => exact ⟨i, d, F3, by omega, rfl, hst, hK⟩
  case round =>
  clear hst hK
  obtain ⟨j, d2, F4, hj, rfl, hst, hK⟩ := hrel
  by_cases hja : (j : Int) ≤ a
  case pos =>
    have hja' : decide ((j : Int) ≤ a) = true := decide_eq_true hja
    have q1 := st_sync CS HG0.out hK hst hja
    clear hst hK
    by_cases hjb : (j : Int) < a
    · have HV : Hid (st2 a j = 0) := by show _ = _; unfold st2; rw [if_pos hjb]
      have hne : ((j : Int) == a) = false := beq_eq_false_iff_ne.2 (by omega)
      rw [HV.out, show wErr 0 = .nilIface from rfl] at q1
      clear HV
      go_wp2_with (go_at_call 20; refine q1.mono ?_; rintro e w5 ⟨rfl, d5, F5, hK5, hst5⟩; clear q1)
      go_roundw
      case rel => exact ⟨j + 1, d5, F5, by omega, by go_num, by exact_mod_cast hst5, hK5⟩
      case measure => simp [intOf]; omega
    · have HV : Hid (st2 a j = 6) := by show _ = _; unfold st2; rw [if_neg hjb]
      have hne : ((j : Int) == a) = true := beq_iff_eq.2 (by omega)
      rw [HV.out, show wErr 6 = .iface 93 (.int .i64 6) from rfl] at q1
      clear HV
      go_wp2_with (go_at_call 20; refine q1.mono ?_; rintro e w5 ⟨rfl, d5, F5, hK5, hst5⟩; clear q1)
      go_roundw
      case rel => exact ⟨j + 1, d5, F5, by omega, by go_num, by exact_mod_cast hst5, hK5⟩
      case measure => simp [intOf]; omega
  have hja' : decide ((j : Int) ≤ a) = false := decide_eq_false hja
  have q1 := st_end CS CP CC HG0.out hK hst (by omega) keep
  rw [show wErr 6 = .iface 93 (.int .i64 6) from rfl] at q1
  have HE6 : Hid (∀ W, Below w0.heap.size w0 W → Calls Tryz.prog 15 #[.iface 93 (.int .i64 6), .int .i64 6] W fun r w' => r = .returned (.bool true) ∧ Below W.heap.size W w') := fun W hb => HE.out 6 6 W (HBW.out W hb)
  clear hst hK
  go_upto_region 26 with (first
    | (go_at_call 20; refine q1.mono ?_; rintro e w5 ⟨rfl, _, q2⟩; clear q1)
    | (go_at_call 21; refine q2.mono ?_; rintro e w6 ⟨rfl, hb6, q3⟩; clear q2; have q4 := HE6.out w6 hb6)
    | (go_at_call 15; refine q4.mono ?_; rintro e w7 ⟨rfl, b7⟩; clear q4; have hb7 := hb6.trans (b7.mono hb6.size); have q5 := HE6.out w7 hb7)
    | (go_at_call 15; refine q5.mono ?_; rintro e w8 ⟨rfl, b8⟩; clear q5))
  have q6 := q3 w8 (b7.trans (b8.mono b7.size))
  clear q3 HE6
  go_upto_region 27 with (go_at_call 22; refine q6.mono ?_; rintro e w9 ⟨⟨v9, rfl⟩, d9, F9, hK9, hok9, hs9, hf9, ht90, ht9, hln9⟩; clear q6)
  have q7 : Calls Tryz.prog 23 #[.pointer (some ⟨cb, 0, none⟩)] w9 fun e w' => e = .returned (.int .i64 (d9.k toyS).time) ∧ Below w9.heap.size w9 w' := CT hK9 hok9 toyS_ok
  have HL : Hid (∀ W, Below w9.heap.size w9 W → Calls Tryz.prog 19 #[.pointer (some ⟨cb, 0, none⟩), .int .i64 2] W fun e w1 => e = .returned .nilIface ∧ Calls Tryz.prog 20 #[.pointer (some ⟨cb, 0, none⟩)] w1 fun e w2 => e = .returned .nilIface ∧ ∃ d' F', C.K w0 w2 toyS d' cb F' ∧ LOk toyS d' ∧ (d'.k toyS).time = (d9.k toyS).time + 2 ∧ d'.safe = d'.bytes) := fun W hb => st_last CS HG0.out (C.frame hK9 (KTouch.of (M := []) hb) (by simp)) hok9 hs9 hf9 ht9 hln9
  clear hs9 hf9 hok9 hK9
  generalize (d9.k toyS).time = tm at q7 HL ht90 ht9
  go_upto_region 30 with (first
    | (go_at_call 23; refine q7.mono ?_; rintro e w10 ⟨rfl, b10⟩; clear q7; have q8 := HL.out w10 b10)
    | (go_at_call 19; refine q8.mono ?_; rintro e w11 ⟨rfl, q9⟩; clear q8)
    | (go_at_call 20; refine q9.mono ?_; rintro e w12 ⟨rfl, d12, F12, hK12, hok12, ht12, hsb⟩; clear q9))
  have q10 : Calls Tryz.prog 23 #[.pointer (some ⟨cb, 0, none⟩)] w12 fun e w' => e = .returned (.int .i64 (d12.k toyS).time) ∧ Below w12.heap.size w12 w' := CT hK12 hok12 toyS_ok
  have HSA : Hid (∀ W, Below w12.heap.size w12 W → Calls Tryz.prog 24 #[.pointer (some ⟨cb, 0, none⟩)] W fun e w' => e = .returned (.int .i64 (d12.bytes : Nat)) ∧ Below W.heap.size W w') := fun W hb => by
    have hq : Calls Tryz.prog 24 #[.pointer (some ⟨cb, 0, none⟩)] W fun e w' => e = .returned (.int .i64 (d12.safe : Nat)) ∧ Below W.heap.size W w' := CA (C.frame hK12 (KTouch.of (M := []) hb) (by simp)) hok12 toyS_ok
    rw [hsb] at hq
    exact hq
  have HSB : Hid (∀ W, Below w12.heap.size w12 W → Calls Tryz.prog 25 #[.pointer (some ⟨cb, 0, none⟩)] W fun e w' => e = .returned (.int .i64 (d12.bytes : Nat)) ∧ Below W.heap.size W w') := fun W hb => CB (C.frame hK12 (KTouch.of (M := []) hb) (by simp)) hok12 toyS_ok
  have HB12 : Hid (Below w.heap.size w w12) := HBW.out _ (C.since hK12)
  rw [ht12] at q10
  clear hK12 hok12 ht12 hsb HL
  generalize d12.bytes = X at HSA HSB
  have hq1 : (tm + 2 == tm + 2) = true := by simp
  have hq2 : ((X : Int) == (X : Int)) = true := by simp
  go_wp2_with (first
    | (go_at_call 23; refine q10.mono ?_; rintro e w13 ⟨rfl, b13⟩; clear q10; have q11 := HSA.out w13 b13)
    | (go_at_call 24; refine q11.mono ?_; rintro e w14 ⟨rfl, b14⟩; clear q11; have q12 := HSB.out w14 (b13.trans (b14.mono b13.size)))
    | (go_at_call 25; refine q12.mono ?_; rintro e w15 ⟨rfl, b15⟩; clear q12))
  go_ret
  have hbE := HB12.out.trans (b13.mono HB12.out.size)
  have hbF := hbE.trans (b14.mono hbE.size)
  exact ⟨by simp, hbF.trans (b15.mono hbF.size)⟩
end Go.Proofs.YtajfgmlockjmhaiGreatDoor
