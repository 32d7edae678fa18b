/-
  Package snap: lay. What was kept, into a new kernel.
-/
import Derived.Test.YtajfgmlockjmhaiGreatDoorJt7
import Derived.Test.YtajfgmlockjmhaiGreatDoorGPutW
import Derived.Test.YtajfgmlockjmhaiGreatDoorJt3
namespace Go.Proofs.YtajfgmlockjmhaiGreatDoor
open Go.RowKit

theorem wputB_line {l : LnD} (hs : 0 ≤ l.ls) (hx : ∀ n ∈ l.xs, 0 ≤ n) : wputB l.w.2.2.1 l.w.2.2.2 l.xs l.ls = lineBad l := by
  unfold wputB lineBad
  have e1 : l.xs.any woutB = l.xs.any (fun n => decide (999 < n)) := by
    rw [Bool.eq_iff_iff, List.any_eq_true, List.any_eq_true]
    constructor
    · rintro ⟨n, hn, h⟩
      refine ⟨n, hn, ?_⟩
      unfold woutB at h
      rw [Bool.or_eq_true] at h
      rcases h with h | h
      · have := hx n hn
        simp at h
        omega
      · exact h
    · rintro ⟨n, hn, h⟩
      exact ⟨n, hn, by unfold woutB; rw [Bool.or_eq_true]; exact Or.inr h⟩
  have e2 : decide (l.ls < 0) = false := decide_eq_false (by omega)
  have e3 : decide (0 < l.ls) = decide (l.ls ≠ 0) := decide_eq_decide.2 (by omega)
  rw [e1, e2, e3, Bool.or_false]
  cases decide (l.w.2.2.2 < (l.xs.length : Int)) <;> cases l.xs.any (fun n => decide (999 < n)) <;> cases decide (l.w.2.2.1 = 1) <;> cases decide (l.ls ≠ 0) <;> rfl
/-- What was kept, in rows that the call owns. -/
structure Kps (w : World) (B : Nat) (vr vw : Value) (rs : List St) (us : List (Value × Int)) (ls : List LnD) : Prop where
  rr : w.ownsRow B 73 8 vr rs.length (stCells rs)
  wr : w.ownsRow B 100 2 vw us.length (hdCells us)
  ul : us.length = ls.length
  at_ : ∀ (i : Nat) u l, us[i]? = some u → ls[i]? = some l → u.2 = l.ls ∧ Rd w u.1 l.xs ∧ ∀ g, u.1.ownBlock = some g → B ≤ g
  le : B ≤ w.heap.size
theorem Kps.kept {w w' : World} {B : Nat} {vr vw : Value} {rs : List St} {us : List (Value × Int)} {ls : List LnD} (h : Kps w B vr vw rs us ls) {M : List Nat} (ht : KTouch M w w') (hM : ∀ m ∈ M, m < B) : Kps w' B vr vw rs us ls := by
  have hk : ∀ k, B ≤ k → k < w.heap.size → w'.heap[k]? = w.heap[k]? := fun k h1 h2 => ht.block k h2 (fun hm => by have := hM k hm; omega)
  refine ⟨own_block h.rr (fun k e => hk k (h.rr.lt k e).1 (h.rr.lt k e).2), own_block h.wr (fun k e => hk k (h.wr.lt k e).1 (h.wr.lt k e).2), h.ul, fun i u l hu hl => ?_, Nat.le_trans h.le ht.size⟩
  obtain ⟨q1, q2, q3⟩ := h.at_ i u l hu hl
  exact ⟨q1, q2.block (fun k h1 e => hk k (q3 k e) h1) ht.size, q3⟩
theorem held_at {W : World} {base n : Nat} {v : Value} {l : List (Value × Int)} (h : W.ownsRow base 100 2 v n (hdCells l)) (hn : n ≠ 0) : ∃ g cap, v = .slice (some ⟨g, 0, none⟩) n cap ∧ base ≤ g ∧ g < W.heap.size ∧ ∀ (r : Nat) x, l[r]? = some x → W.cell? ⟨g, r * 2, none⟩ = some x.1 ∧ W.cell? ⟨g, r * 2 + 1, none⟩ = some (.int .i64 x.2) := by
  rcases h.2 with ⟨_, h0⟩ | ⟨g, cap, cur, rfl, h3, h4, _⟩
  · exact absurd h0 hn
  · have hc : ∀ j u, (hdCells l)[j]? = some u → W.cell? ⟨g, j, none⟩ = some u := fun j u hj => by
      have := h.cells (g := g) rfl j u hj
      rwa [Addr.add_lit, Nat.zero_add] at this
    refine ⟨g, cap, rfl, h3, (Array.getElem?_eq_some_iff.1 h4).1, fun r x hx => ?_⟩
    obtain ⟨h0, h1⟩ := hdCells_at l r x hx
    exact ⟨hc _ _ h0, hc _ _ h1⟩
theorem kps_form {w : World} {B : Nat} {vr vw : Value} {rs : List St} {us : List (Value × Int)} {ls : List LnD} (h : Kps w B vr vw rs us ls) : (∃ ao cap, vr = .slice ao rs.length cap) ∧ ∃ ao cap, vw = .slice ao us.length cap := by
  refine ⟨?_, ?_⟩
  · rcases h.rr.2 with ⟨h1, h2⟩ | ⟨g, cap, cur, h1, _⟩
    · exact ⟨_, _, by rw [h1, h2]⟩
    · exact ⟨_, _, h1⟩
  · rcases h.wr.2 with ⟨h1, h2⟩ | ⟨g, cap, cur, h1, _⟩
    · exact ⟨_, _, by rw [h1, h2]⟩
    · exact ⟨_, _, h1⟩

theorem ktouch_or {M M' : List Nat} {w w' w'' : World} (h : KTouch M w w') (g : KTouch M' w' w'') (hn : ∀ m ∈ M', m ∈ M ∨ w.heap.size ≤ m) : KTouch M w w'' :=
  ⟨g.os.trans h.os, g.tape.trans h.tape, g.output.trans h.output, Nat.le_trans h.size g.size, fun k hk hm => (g.block k (Nat.lt_of_lt_of_le hk h.size) (fun hm' => by rcases hn k hm' with h1 | h1; exact hm h1; omega)).trans (h.block k hk hm)⟩
theorem wire_few {p : PD} (hp : plchk p = 0) {rs : List St} {ls : List LnD} (h : KpOk p rs ls) {m : Nat} {l : LnD} (hl : ls[m]? = some l) (hb : wputB l.w.2.2.1 l.w.2.2.2 l.xs l.ls = false) : l.xs.length ≤ 1000000 := by
  have h1 := (wputB_no hb).1
  rcases wchk_kind ((wschk_ok (plchk_zero hp).2.2.2.1).2 _ (List.mem_of_getElem? (h.wat hl))) with ⟨_, h5⟩ | ⟨_, _, h5⟩ <;> omega
set_option maxRecDepth 1000000 in
set_option maxHeartbeats 8000000 in
theorem lay_any (p : PD) (kb base B : Nat) (a : GW) (rs : List St) (ls : List LnD) (us : List (Value × Int)) (t : Int) (vr vw : Value) (w : World) (hfm : ∀ W, Below base w W → Forms W) (hp : plchk p = 0) (h : GK w base p (newK p) kb a) (hbw : base ≤ w.heap.size) (hF : ∀ g ∈ a.F kb, g < B) (hK : Kps w B vr vw rs us ls) (hk : KpOk p rs ls) (ht : 0 ≤ t) :
    Calls Tryz.prog 44 #[.agg #[.int .i64 t, vr, vw], .pointer (some ⟨kb, 0, none⟩)] w fun e w' => e = .returned (wErr (errB (snBad p ⟨rs, ls, t⟩))) ∧ KTouch (a.F kb) w w' ∧ (snBad p ⟨rs, ls, t⟩ = false → ∃ a', GK w' base p ⟨rs, ls, t⟩ kb a' ∧ ∀ g ∈ a'.F kb, g ∈ a.F kb ∨ w.heap.size ≤ g) := by
  obtain ⟨⟨ra, rc, rfl⟩, wa, wc, rfl⟩ := kps_form hK
  have hb1 : Below w.heap.size w (w.alloc (.cells #[.int .i64 t, .slice ra rs.length rc, .slice wa us.length wc] 103)) := (Below.refl _ _).alloc (Nat.le_refl _) _
  have hG : GK (w.alloc (.cells #[.int .i64 t, .slice ra rs.length rc, .slice wa us.length wc] 103)) base p (mixK p rs ls 0 0) kb a := h.all hb1
  have hK1 := hK.kept (KTouch.of (M := a.F kb) hb1) hF
  have hne := fun g (hg : g ∈ a.F kb) => Nat.ne_of_lt (h.flt g hg)
  have HF : Hid (∀ W, Below base w W → Forms W) := hfm
  have HK : Hid (KpOk p rs ls) := hk
  have HB : Hid (∀ g ∈ a.F kb, g < B ∧ g < w.heap.size ∧ base ≤ g) := fun g hg => ⟨hF g hg, h.flt g hg, h.ge g hg⟩
  have HRL : Hid (rs.length = p.code.length) := hk.rl
  have HP : Hid (plchk p = 0) := hp
  have hr5 : rs.length ≤ 5 := by rw [hk.rl]; exact (plchk_zero hp).1
  have hu12 : us.length ≤ 12 := by rw [hK.ul, hk.ll]; exact (wschk_ok (plchk_zero hp).2.2.2.1).1
  clear h hK hk hfm hF hp
  go_enter Tryz.func44, Tryz.ntmps44
  have d0 : (w.alloc (.cells #[.int .i64 t, .slice ra rs.length rc, .slice wa us.length wc] 103)).cell? ⟨w.heap.size, 0, none⟩ = some (.int .i64 t) := by simp
  have d1 : (w.alloc (.cells #[.int .i64 t, .slice ra rs.length rc, .slice wa us.length wc] 103)).cell? ⟨w.heap.size, 1, none⟩ = some (.slice ra rs.length rc) := by simp
  have d2 : (w.alloc (.cells #[.int .i64 t, .slice ra rs.length rc, .slice wa us.length wc] 103)).cell? ⟨w.heap.size, 2, none⟩ = some (.slice wa us.length wc) := by simp
  have hs0 : (w.alloc (.cells #[.int .i64 t, .slice ra rs.length rc, .slice wa us.length wc] 103)).heap.size = w.heap.size + 1 := by simp
  generalize hW0 : w.alloc (.cells #[.int .i64 t, .slice ra rs.length rc, .slice wa us.length wc] 103) = W0 at hb1 hG hK1 d0 d1 d2 hs0
  have HX : Hid (∀ W, KTouch (a.F kb) W0 W → W.cell? ⟨w.heap.size, 0, none⟩ = some (.int .i64 t) ∧ W.cell? ⟨w.heap.size, 2, none⟩ = some (.slice wa us.length wc)) := fun W hT => by
    have hb := hT.block w.heap.size (by omega) (fun hm => by have := (HB.out _ hm).2.1; omega)
    exact ⟨(World.cell?_of_block (a := ⟨w.heap.size, 0, none⟩) hb).trans d0, (World.cell?_of_block (a := ⟨w.heap.size, 2, none⟩) hb).trans d2⟩
  go_wp2
  clear d0 d1 d2 hW0
  have H1 : Hid (Kps W0 B (.slice ra rs.length rc) (.slice wa us.length wc) rs us ls) := hK1
  have HG : Hid (GK W0 base p (mixK p rs ls 0 0) kb a) := hG
  clear hK1 hG
  go_loopw [14] (fun i wr => ∃ n : Nat, n ≤ rs.length ∧ i = .int .i64 n ∧ okR p rs n ∧ GK wr base p (mixK p rs ls n 0) kb a ∧ KTouch (a.F kb) W0 wr) (fun i _ => rs.length - (intOf i).toNat)
  case atStart => exact ⟨0, Nat.zero_le _, rfl, fun j c s hj => by omega, HG.out, KTouch.refl _ _⟩
  case round =>
  obtain ⟨n, hn, rfl, hok, hg, htk⟩ := hrel
  have hbW : Below base w wr := (hb1.mono hbw).trans (htk.below (fun m hm => (HB.out m hm).2.2) (by omega))
  have hKr := H1.out.kept htk (fun m hm => (HB.out m hm).1)
  by_cases hnl : n < rs.length
  · have hni : (n : Int) < (rs.length : Int) := by omega
    obtain ⟨c, hc⟩ : ∃ c, p.code[n]? = some c := ⟨_, List.getElem?_eq_getElem (by have := HRL.out; omega)⟩
    obtain ⟨s, hs⟩ : ∃ s, rs[n]? = some s := ⟨_, List.getElem?_eq_getElem hnl⟩
    obtain ⟨g, cap, e, hBg, hlt, hcs⟩ := was_at hKr.rr (by omega)
    injection e with e1 _ e3
    subst e1
    subst e3
    obtain ⟨s0, s1, s2, s3, s4, s5, s6, s7⟩ := hcs n s hs
    have hkd := mixK_ok HP.out HK.out hok (fun j l hj => by omega) (m := 0)
    cases hst : stOk s c.length with
    | true =>
      have q : ∀ W, Below wr.heap.size wr W → Calls Tryz.prog 77 #[.pointer (some ⟨kb, 0, none⟩), .int .i64 n, .agg #[.int .i64 s.p, .int .i64 (s.c 0), .int .i64 (s.c 1), .int .i64 (s.c 2), .int .i64 (s.c 3), .int .i64 (s.c 4), .int .i64 (s.c 5), .bool s.f]] W fun e w' => e = .returned .nilIface ∧ GK w' base p (mixK p rs ls (n + 1) 0) kb a ∧ KTouch (a.F kb) W0 w' := fun W hb => by
        have hb0 : base ≤ wr.heap.size := Nat.le_trans hbw hbW.size
        refine (gput_ok p _ kb base a n s W (HF.out W (hbW.trans (hb.mono hb0))) (hg.all hb) HP.out hkd (by have := HRL.out; omega) (fun c' hc' => by rw [hc] at hc'; obtain rfl := Option.some.inj hc'; exact hst)).mono ?_
        rintro e w' ⟨rfl, h1, h2⟩
        refine ⟨rfl, ?_, htk.trans ((KTouch.of hb).trans (h2.mono (fun m hm => by rw [List.mem_singleton] at hm; subst hm; simp [GW.F])))⟩
        have e2 : mixK p rs ls (n + 1) 0 = ⟨(mixK p rs ls n 0).rooms.set n s, (mixK p rs ls n 0).lines, (mixK p rs ls n 0).time⟩ := by
          unfold mixK
          simp only
          rw [mixA_set HK.out.r hs]
        rw [e2]
        exact h1
      have HQ : Hid (okR p rs (n + 1)) := okR_next hok hc hs hst
      have Q := q _ ((Below.refl _ wr).alloc (Nat.le_refl _) (.cells #[.int .i64 s.p, .int .i64 (s.c 0), .int .i64 (s.c 1), .int .i64 (s.c 2), .int .i64 (s.c 3), .int .i64 (s.c 4), .int .i64 (s.c 5), .bool s.f] 73))
      clear q hkd hst hc hs hok hcs hKr
      go_wp2_with (go_at_call 77; refine Q.mono ?_; rintro e w1 ⟨rfl, hg1, ht1⟩; clear Q)
      go_roundw
      case rel => exact ⟨n + 1, by omega, by go_num, HQ.out, hg1, ht1⟩
      case measure => simp [intOf]; omega
    | false =>
      have HBAD : Hid (snBad p ⟨rs, ls, t⟩ = true) := snBad_room hc hs hst
      have q : ∀ W, Below wr.heap.size wr W → Calls Tryz.prog 77 #[.pointer (some ⟨kb, 0, none⟩), .int .i64 n, .agg #[.int .i64 s.p, .int .i64 (s.c 0), .int .i64 (s.c 1), .int .i64 (s.c 2), .int .i64 (s.c 3), .int .i64 (s.c 4), .int .i64 (s.c 5), .bool s.f]] W fun e w' => e = .returned (.iface 93 (.int .i64 1)) ∧ KTouch (a.F kb) W0 w' := fun W hb => by
        have hb0 : base ≤ wr.heap.size := Nat.le_trans hbw hbW.size
        refine (gput_no p _ kb base a n s c W (HF.out W (hbW.trans (hb.mono hb0))) (hg.all hb) HP.out hkd hc hst).mono ?_
        rintro e w' ⟨rfl, h2⟩
        exact ⟨rfl, htk.trans ((KTouch.of hb).trans (KTouch.of h2))⟩
      have Q := q _ ((Below.refl _ wr).alloc (Nat.le_refl _) (.cells #[.int .i64 s.p, .int .i64 (s.c 0), .int .i64 (s.c 1), .int .i64 (s.c 2), .int .i64 (s.c 3), .int .i64 (s.c 4), .int .i64 (s.c 5), .bool s.f] 73))
      clear q hkd hst hc hs hok hcs hKr
      go_wp2_with (go_at_call 77; refine Q.mono ?_; rintro e w1 ⟨rfl, ht1⟩; clear Q)
      go_ret
      exact ⟨by rw [HBAD.out]; rfl, (KTouch.of hb1).trans ht1, fun e => by rw [HBAD.out] at e; cases e⟩
  have hni : decide ((n : Int) < (rs.length : Int)) = false := decide_eq_false (by omega)
  have hnn : decide (n < rs.length) = false := decide_eq_false (by omega)
  obtain rfl : n = rs.length := by omega
  have HOK : Hid (okR p rs rs.length) := hok
  have HG2 : Hid (GK wr base p (mixK p rs ls rs.length 0) kb a) := hg
  have HT2 : Hid (KTouch (a.F kb) W0 wr) := htk
  have hwW : w.heap.size ≤ wr.heap.size := by have := htk.size; omega
  obtain ⟨x0, x2⟩ := HX.out wr htk
  clear hok hg htk hKr hbW hnl hn HG
  go_wp2
  clear x0 x2
  rename World => wo
  go_loopw [30] (fun i wr => ∃ m : Nat, m ≤ us.length ∧ i = .int .i64 m ∧ okW ls m ∧ ∃ a', GK wr base p (mixK p rs ls rs.length m) kb a' ∧ KTouch (a.F kb) W0 wr ∧ ∀ g ∈ a'.F kb, g ∈ a.F kb ∨ W0.heap.size ≤ g) (fun i _ => us.length - (intOf i).toNat)
  case atStart => exact ⟨0, Nat.zero_le _, rfl, fun j l hj => by omega, a, HG2.out, HT2.out, fun g hg => Or.inl hg⟩
  case round =>
  clear HG2 HT2 hwW
  obtain ⟨m, hm, rfl, hok, a', hg, htk, hna⟩ := hrel
  have hbW : Below base w wr := (hb1.mono hbw).trans (htk.below (fun m hm => (HB.out m hm).2.2) (by omega))
  have hKr := H1.out.kept htk (fun m hm => (HB.out m hm).1)
  have hbr : base ≤ wr.heap.size := Nat.le_trans hbw hbW.size
  by_cases hml : m < us.length
  · have hmi : (m : Int) < (us.length : Int) := by omega
    obtain ⟨l, hl⟩ : ∃ l, ls[m]? = some l := ⟨_, List.getElem?_eq_getElem (by rw [← hKr.ul]; exact hml)⟩
    obtain ⟨u, hu⟩ : ∃ u, us[m]? = some u := ⟨_, List.getElem?_eq_getElem hml⟩
    obtain ⟨g, cap, e, hBg, hlt, hcs⟩ := held_at hKr.wr (by omega)
    injection e with e1 _ e3
    subst e1
    subst e3
    obtain ⟨s0, s1⟩ := hcs m u hu
    obtain ⟨hul, hrd, _⟩ := hKr.at_ m u l hu hl
    obtain ⟨ao, ac, huf⟩ := hrd.form
    rw [huf] at s0 hrd
    rw [hul] at s1
    obtain ⟨q1, q2, q3, q4⟩ := HK.out.ln l (List.mem_of_getElem? hl)
    have hwb := wputB_line q1 q3
    have hnew : (mixK p rs ls rs.length m).lines[m]? = some ⟨l.w, [], 0⟩ := HK.out.new hl
    cases hlb : lineBad l with
    | false =>
      rw [hlb] at hwb
      have q : ∀ W, Below wr.heap.size wr W → Calls Tryz.prog 78 #[.pointer (some ⟨kb, 0, none⟩), .int .i64 m, .agg #[.slice ao l.xs.length ac, .int .i64 l.ls]] W fun e w' => e = .returned .nilIface ∧ ∃ a', GK w' base p (mixK p rs ls rs.length (m + 1)) kb a' ∧ KTouch (a.F kb) W0 w' ∧ ∀ g ∈ a'.F kb, g ∈ a.F kb ∨ W0.heap.size ≤ g := fun W hb => by
        refine (gputw_ok p _ kb base a' m ⟨l.w, [], 0⟩ ao ac l.xs l.ls W (hg.all hb) (Nat.le_trans hbr hb.size) hnew (hrd.all hb) (wire_few HP.out HK.out hl hwb) hwb).mono ?_
        rintro e w' ⟨rfl, a2, h1, h2, h3⟩
        have e2 : mixK p rs ls rs.length (m + 1) = ⟨(mixK p rs ls rs.length m).rooms, (mixK p rs ls rs.length m).lines.set m ⟨l.w, l.xs, l.ls⟩, (mixK p rs ls rs.length m).time⟩ := by
          unfold mixK
          simp only
          rw [show (⟨l.w, l.xs, l.ls⟩ : LnD) = l from rfl, mixA_set HK.out.l hl]
        refine ⟨rfl, a2, by rw [e2]; exact h1, ktouch_or htk ((KTouch.of hb).trans h2) hna, fun g hg => ?_⟩
        rcases h3 g hg with h4 | h4
        · exact hna g h4
        · exact Or.inr (Nat.le_trans htk.size (Nat.le_trans hb.size h4))
      have HQ : Hid (okW ls (m + 1)) := okW_next hok hl hlb
      have Q := q _ ((Below.refl _ wr).alloc (Nat.le_refl _) (.cells #[.slice ao l.xs.length ac, .int .i64 l.ls] 100))
      clear q hlb hl hu hok hcs hKr hul hrd huf hwb hnew q1 q2 q3 q4
      go_wp2_with (go_at_call 78; refine Q.mono ?_; rintro e w1 ⟨rfl, hq1⟩; clear Q)
      go_roundw
      case rel => exact ⟨m + 1, by omega, by go_num, HQ.out, hq1⟩
      case measure => simp [intOf]; omega
    | true =>
      rw [hlb] at hwb
      have HBAD : Hid (snBad p ⟨rs, ls, t⟩ = true) := snBad_wire hl hlb
      have q : ∀ W, Below wr.heap.size wr W → Calls Tryz.prog 78 #[.pointer (some ⟨kb, 0, none⟩), .int .i64 m, .agg #[.slice ao l.xs.length ac, .int .i64 l.ls]] W fun e w' => e = .returned (.iface 93 (.int .i64 1)) ∧ KTouch (a.F kb) W0 w' := fun W hb => by
        refine (gputw_no p _ kb base a' m ⟨l.w, [], 0⟩ ao ac l.xs l.ls W (hg.all hb) hnew (hrd.all hb) q4 hwb).mono ?_
        rintro e w' ⟨rfl, h2⟩
        exact ⟨rfl, htk.trans ((KTouch.of hb).trans (KTouch.of h2))⟩
      have Q := q _ ((Below.refl _ wr).alloc (Nat.le_refl _) (.cells #[.slice ao l.xs.length ac, .int .i64 l.ls] 100))
      clear q hlb hl hu hok hcs hKr hul hrd huf hwb hnew q1 q2 q3 q4
      go_wp2_with (go_at_call 78; refine Q.mono ?_; rintro e w1 ⟨rfl, ht1⟩; clear Q)
      go_ret
      exact ⟨by rw [HBAD.out]; rfl, (KTouch.of hb1).trans ht1, fun e => by rw [HBAD.out] at e; cases e⟩
  have hmi : decide ((m : Int) < (us.length : Int)) = false := decide_eq_false (by omega)
  have hmm : decide (m < us.length) = false := decide_eq_false (by omega)
  obtain rfl : m = us.length := by omega
  have HGOOD : Hid (snBad p ⟨rs, ls, t⟩ = false) := snBad_no HOK.out (by rw [← hKr.ul]; exact hok)
  have HQ : Hid (Calls Tryz.prog 79 #[.pointer (some ⟨kb, 0, none⟩), .int .i64 t] wr fun e w' => e = .returned .nilIface ∧ GK w' base p ⟨rs, ls, t⟩ kb a' ∧ KTouch (a.F kb) W0 w') := by
    refine (gputt_any p _ kb base a' t wr hg ht).mono ?_
    rintro e w' ⟨rfl, h1, h2⟩
    have e2 : (⟨rs, ls, t⟩ : KD) = ⟨(mixK p rs ls rs.length us.length).rooms, (mixK p rs ls rs.length us.length).lines, t⟩ := by
      unfold mixK
      simp only
      rw [mixA_all HK.out.r, hKr.ul, mixA_all HK.out.l]
    exact ⟨rfl, by rw [e2]; exact h1, ktouch_or htk h2 (fun m hm => by rw [List.mem_singleton] at hm; subst hm; exact Or.inl (by simp [GW.F]))⟩
  have HN : Hid (∀ g ∈ a'.F kb, g ∈ a.F kb ∨ w.heap.size ≤ g) := fun g hg => by
    rcases hna g hg with h1 | h1
    · exact Or.inl h1
    · exact Or.inr (by omega)
  obtain ⟨x0, x2⟩ := HX.out wr htk
  clear hok hg htk hKr hbW hml hm hna hbr
  go_wp2_with (go_at_call 79; refine HQ.out.mono ?_; rintro e w1 ⟨rfl, hg1, ht1⟩)
  go_ret
  exact ⟨by rw [HGOOD.out]; rfl, (KTouch.of hb1).trans ht1, fun _ => ⟨a', hg1, HN.out⟩⟩
end Go.Proofs.YtajfgmlockjmhaiGreatDoor
