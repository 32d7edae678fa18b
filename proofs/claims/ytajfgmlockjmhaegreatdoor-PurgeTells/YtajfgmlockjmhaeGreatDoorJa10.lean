/-
  KFrame, KRefTk, RStates: joined into one text.
-/
import Derived.Test.YtajfgmlockjmhaeGreatDoorKRefTick
import Derived.Test.YtajfgmlockjmhaeGreatDoorKRefNew
import Derived.Deep.CutRange
import Derived.Deep.RegionWith
import Derived.BigQuiet
import Derived.RangeFuncNested
import Derived.Test.YtajfgmlockjmhaeGreatDoorJa3
import Derived.Test.YtajfgmlockjmhaeGreatDoorJa4
import Derived.Test.YtajfgmlockjmhaeGreatDoorJa1
import Derived.Deep.RegionLaw
namespace Go.Proofs.YtajfgmlockjmhaeGreatDoor
open Go.RowKit

/-- The blocks of the document's kernel. -/
def KF (a : KW) : List Nat := a.kb :: a.rb :: a.lr :: (a.bs ++ a.us.filterMap Value.ownBlock)
theorem KF.m {a : KW} : ∀ g ∈ a.m, g ∈ KF a := fun g hg => by
  unfold KW.m at hg
  unfold KF
  simp only [List.mem_cons, List.mem_append] at hg ⊢
  rcases hg with h | h | h
  · exact Or.inl h
  · exact Or.inr (Or.inl h)
  · exact Or.inr (Or.inr (Or.inr (Or.inl h)))
theorem KF.us {a : KW} {us : List Value} {n : Nat} (h : ∀ u ∈ us, ∀ g, u.ownBlock = some g → OldU a g ∨ n ≤ g) : ∀ g ∈ KF { a with us := us }, g ∈ KF a ∨ n ≤ g := fun g hg => by
  unfold KF at hg ⊢
  simp only [List.mem_cons, List.mem_append, List.mem_filterMap] at hg ⊢
  rcases hg with h1 | h1 | h1 | h1 | ⟨u, h1, h2⟩
  · exact Or.inl (Or.inl h1)
  · exact Or.inl (Or.inr (Or.inl h1))
  · exact Or.inl (Or.inr (Or.inr (Or.inl h1)))
  · exact Or.inl (Or.inr (Or.inr (Or.inr (Or.inl h1))))
  · rcases h u h1 g h2 with ⟨u0, h3, h4⟩ | h3
    · exact Or.inl (Or.inr (Or.inr (Or.inr (Or.inr ⟨u0, h3, h4⟩))))
    · exact Or.inr h3
theorem RK.flt {w : World} {base : Nat} {p : PD} {vc vs vw : Value} {k : KD} {a : KW} (h : RK w base p vc vs vw k a) : ∀ g ∈ KF a, g < w.heap.size := fun g hg => by
  have hle := h.le
  unfold KF at hg
  simp only [List.mem_cons, List.mem_append, List.mem_filterMap] at hg
  rcases hg with h1 | h1 | h1 | h1 | ⟨u, h1, h2⟩
  · have := h.lt.1; omega
  · have := h.lt.2.1; omega
  · have := h.lt.2.2.1; omega
  · have := h.lt.2.2.2 g h1; omega
  · exact (h.rows u h1 g h2).2
/-- What is written elsewhere leaves it as it is. -/
theorem RK.frame {w w' : World} {base : Nat} {p : PD} {vc vs vw : Value} {k : KD} {a : KW} (h : RK w base p vc vs vw k a) {M : List Nat} (ht : KTouch M w w') (hM : ∀ m ∈ M, m ∉ KF a) : RK w' base p vc vs vw k a := by
  have hin : ∀ g, g ∈ KF a → w'.heap[g]? = w.heap[g]? := fun g hg => ht.block g (h.flt g hg) (fun hm => hM g hm hg)
  have m1 : a.kb ∈ KF a := by simp [KF]
  have m2 : a.rb ∈ KF a := by simp [KF]
  have m3 : a.lr ∈ KF a := by simp [KF]
  have m4 : ∀ b ∈ a.bs, b ∈ KF a := fun b hb => by simp [KF, hb]
  have m5 : ∀ u ∈ a.us, ∀ g, u.ownBlock = some g → g ∈ KF a := fun u hu g hg => by
    unfold KF
    simp only [List.mem_cons, List.mem_append, List.mem_filterMap]
    exact Or.inr (Or.inr (Or.inr (Or.inr ⟨u, hu, hg⟩)))
  have hc := fun o => World.cell?_of_block (w := w) (w' := w') (a := ⟨a.kb, o, none⟩) (hin _ m1)
  have hf := fun o => World.frozen?_of_block (w := w) (w' := w') (a := ⟨a.kb, o, none⟩) (hin _ m1)
  have hrf := fun o => World.frozen?_of_block (w := w) (w' := w') (a := ⟨a.rb, o, none⟩) (hin _ m2)
  have hlr := fun o => World.cell?_of_block (w := w) (w' := w') (a := ⟨a.lr, o, none⟩) (hin _ m3)
  refine ⟨(hc 0).trans h.c0, (hc 1).trans h.c1, (hc 2).trans h.c2, (hc 3).trans h.c3, (hc 4).trans h.c4, (hc 5).trans h.c5, (hc 6).trans h.c6, (hf 6).trans h.f6, fun i s hs => (h.rooms i s hs).block (hin _ m2), fun o => (hrf o).trans (h.rf o), h.lv, fun i b hi => (hlr i).trans (h.ptr i b hi), h.bl, h.ul, fun i l b u h1 h2 h3 => (h.line i l b u h1 h2 h3).touch ht (fun hm => ?_) (fun g hg hm => ?_), h.ge, h.lt, Nat.le_trans h.le ht.size, h.apart, h.two, h.ft.block (fun b hb => hin b (m4 b hb))⟩
  · exact hM b hm (m4 b (List.mem_of_getElem? h2))
  · exact hM g hm (m5 u (List.mem_of_getElem? h3) g hg)
theorem RK.lower {w : World} {base base' : Nat} {p : PD} {vc vs vw : Value} {k : KD} {a : KW} (h : RK w base p vc vs vw k a) (hb : base' ≤ base) : RK w base' p vc vs vw k a :=
  ⟨h.c0, h.c1, h.c2, h.c3, h.c4, h.c5, h.c6, h.f6, h.rooms, h.rf, h.lv, h.ptr, h.bl, h.ul, h.line, ⟨Nat.le_trans hb h.ge.1, Nat.le_trans hb h.ge.2.1, fun b hm => Nat.le_trans hb (h.ge.2.2 b hm)⟩, h.lt, h.le, h.apart, h.two, h.ft⟩
end Go.Proofs.YtajfgmlockjmhaeGreatDoor
namespace Go.Proofs.YtajfgmlockjmhaeGreatDoor
open Go.RowKit

/-- Tick: by the plan's own spans. -/
theorem reftick_any (p : PD) (vc vw : Value) (sa : Option Addr) (sc : Nat) (k : KD) (a : KW) (base : Nat) (w : World) (hp : plchk p = 0) (hk : KOk p k) (ht : k.time < 100000000) (h : RK w base p vc (.slice sa p.spans.length sc) vw k a) (w0 : World) (hw00 : base = w0.heap.size) (hb0 : Below w0.heap.size w0 w) (hP : Pln w0 vc (.slice sa p.spans.length sc) vw p) :
    Calls Tryz.prog 23 #[.pointer (some ⟨a.kb, 0, none⟩)] w fun e w' => e = .returned (.agg #[.int .i64 (tickK p p.spans k).2.1, .int .i64 (tickK p p.spans k).2.2.1, .int .i64 (tickK p p.spans k).2.2.2.1, .int .i64 (tickK p p.spans k).2.2.2.2]) ∧ (∃ us, RK w' base p vc (.slice sa p.spans.length sc) vw (tickK p p.spans k).1 { a with us := us } ∧ ∀ u ∈ us, ∀ g, u.ownBlock = some g → OldU a g ∨ w.heap.size ≤ g) ∧ KTouch a.m w w' := by
  have hB : Below w.heap.size w (w.alloc (.cells #[.int .i64 0, .int .i64 0, .int .i64 0, .int .i64 0] 73)) := (Below.refl _ w).alloc (Nat.le_refl _) _
  have h1 := h.all hB
  have c2 := h1.c2
  have hq := tickby_any p vc (.slice sa p.spans.length sc) vw p.spans sa sc k a base _ hp hk ht h1 w0 hw00 (hb0.trans (hB.mono hb0.size)) hP.code hP.spans (fchk_zero (plchk_zero hp).2.2.1).2.2.1 (fun t => who_room hp t)
  obtain ⟨t1, ht1⟩ : ∃ x, (tickK p p.spans k).2.1 = x := ⟨_, rfl⟩
  obtain ⟨t2, ht2⟩ : ∃ x, (tickK p p.spans k).2.2.1 = x := ⟨_, rfl⟩
  obtain ⟨t3, ht3⟩ : ∃ x, (tickK p p.spans k).2.2.2.1 = x := ⟨_, rfl⟩
  obtain ⟨t4, ht4⟩ : ∃ x, (tickK p p.spans k).2.2.2.2 = x := ⟨_, rfl⟩
  obtain ⟨k', hk'⟩ : ∃ x, (tickK p p.spans k).1 = x := ⟨_, rfl⟩
  rw [ht1, ht2, ht3, ht4, hk'] at hq
  rw [ht1, ht2, ht3, ht4, hk']
  clear ht1 ht2 ht3 ht4 hk' hP hp hk
  have hmlt : w.heap.size ∉ a.m := fun hm => by have := h.mlt _ hm; have := h.le; omega
  have hle := h.le
  have hold : ∀ g, OldU a g → g < w.heap.size := fun g ⟨u, h2, h3⟩ => (h.rows u h2 g h3).2
  have hbox : (w.alloc (.cells #[.int .i64 0, .int .i64 0, .int .i64 0, .int .i64 0] 73)).heap[w.heap.size]? = some (.cells #[.int .i64 0, .int .i64 0, .int .i64 0, .int .i64 0] 73 (0, 0)) := World.alloc_heap_new w _
  go_enter Tryz.func23, Tryz.ntmps23
  have hst : ∀ w1 : World, KTouch a.m (w.alloc (.cells #[.int .i64 0, .int .i64 0, .int .i64 0, .int .i64 0] 73)) w1 → EvB w1 w.heap.size 0 0 0 0 := fun w1 hk => (hk.block _ (by simp) hmlt).trans hbox
  go_wp2_with (go_at_call 38; refine hq.mono ?_; rintro e w1 ⟨rfl, ⟨us, hr, hu⟩, tk⟩; clear hq; have hev := hst w1 tk; obtain ⟨v0, v1, v2, v3⟩ := hev.cs; obtain ⟨x0, x1, x2, x3⟩ := hev.fs)
  have tkE : KTouch [w.heap.size] w1 ((((w1.setCell ⟨w.heap.size, 0, none⟩ (.int .i64 t1)).setCell ⟨w.heap.size, 1, none⟩ (.int .i64 t2)).setCell ⟨w.heap.size, 2, none⟩ (.int .i64 t3)).setCell ⟨w.heap.size, 3, none⟩ (.int .i64 t4)) := (((KTouch.set w1 (by simp) 0 _).trans (KTouch.set _ (by simp) 1 _)).trans (KTouch.set _ (by simp) 2 _)).trans (KTouch.set _ (by simp) 3 _)
  have hu2 : ∀ u ∈ us, ∀ g, u.ownBlock = some g → OldU a g ∨ w.heap.size + 1 ≤ g := fun u h2 g hg => by
    have := hu u h2 g hg
    rw [World.size_alloc] at this
    exact this
  refine bodyPost_ret (v := .agg #[.int .i64 t1, .int .i64 t2, .int .i64 t3, .int .i64 t4]) ?_ rfl ⟨rfl, ⟨us, hr.touch tkE (fun m hm => ?_), fun u h2 g hg => (hu2 u h2 g hg).imp id (fun h => by omega)⟩, ((KTouch.of hB).trans tk).more tkE (by simp)⟩
  · simp [results, Tryz.results23, go_sem, v0, v1, v2, v3]
  · rw [List.mem_singleton] at hm
    subst hm
    refine ⟨hle, fun u h2 hg => ?_⟩
    rcases hu2 u h2 _ hg with h3 | h3
    · have := hold _ h3
      omega
    · omega
end Go.Proofs.YtajfgmlockjmhaeGreatDoor
namespace Go.Proofs.YtajfgmlockjmhaeGreatDoor
open Go.RowKit

/-- The row of a caller's own has grown. -/
theorem KTouch.row {w w2 wa : World} {row : Option Nat} (hb : Below w.heap.size w w2) (hg : w2.grownBy wa row) : KTouch row.toList w wa :=
  ⟨hg.os.trans hb.os, hg.tape.trans hb.tape, hg.output.trans hb.output, Nat.le_trans hb.size hg.size, fun k hk hm => by
    have := hb.size
    exact (hg.block k (by omega) (fun e => hm (by rw [← e]; simp))).trans (hb.block k hk)⟩
/-- The document's kernel, and a row of states beside it. -/
structure RSt (w wr : World) (p : PD) (vc vs vw : Value) (a : KW) (B r t : Nat) (v : Value) : Prop where
  R : RK wr w.heap.size p vc vs vw (kT p t) a
  own : wr.ownsRow B 39 8 v (t + 1) (stCells (statesK p t r))
  ap : ∀ g, v.ownBlock = some g → g ∉ KF a
  below : Below w.heap.size w wr
  B1 : a.b1 ≤ B
  B2 : B ≤ wr.heap.size
set_option maxRecDepth 100000 in
set_option maxHeartbeats 8000000 in
theorem rstates_any (p : PD) (vc vs vw : Value) (n r : Nat) (w : World) (hp : plchk p = 0) (hP : Pln w vc vs vw p) (hn : n ≤ 2000) (hr : r < p.code.length) :
    Calls Tryz.prog 9 #[plV vc p.ticks vs vw, .int .i64 n, .int .i64 r] w fun e w' => ∃ v, e = .returned v ∧ StL w' v (statesK p n r) ∧ Below w.heap.size w w' := by
  obtain ⟨jj, hj, hy0, hy1, hy2⟩ := info_parts infoSt
  obtain ⟨ca, cc, rfl⟩ := hP.code.form
  obtain ⟨sa, sc, rfl⟩ := hP.spans.form
  obtain ⟨wa, wc', rfl⟩ := hP.wires.form
  have hA : Below w.heap.size w (w.alloc (.cells #[.slice ca p.code.length cc, .int .i64 p.ticks, .slice sa p.spans.length sc, .slice wa p.wires.length wc'] 26)) := (Below.refl _ _).alloc (Nat.le_refl _) _
  have hN := newkernel_any p _ _ _ _ hp (hP.all hA)
  unfold plV at hN ⊢
  have HP : Hid (Pln (w.alloc (.cells #[.slice ca p.code.length cc, .int .i64 p.ticks, .slice sa p.spans.length sc, .slice wa p.wires.length wc'] 26)) (.slice ca p.code.length cc) (.slice sa p.spans.length sc) (.slice wa p.wires.length wc') p) := hP.all hA
  have hgs : ∀ t, ∃ s, (kT p t).rooms[r]? = some s ∧ (kT p t).rooms.getD r stNew = s := fun t => by
    have hlt : r < (kT p t).rooms.length := by rw [(kT_ok hp t).rl]; exact hr
    exact ⟨_, List.getElem?_eq_getElem hlt, by simp [List.getD, hlt]⟩
  have HGs : Hid (∀ t, ∃ s, (kT p t).rooms[r]? = some s ∧ (kT p t).rooms.getD r stNew = s) := hgs
  have hri : (r : Int) < (p.code.length : Int) := by omega
  clear hP hgs
  have HN : Hid (Calls Tryz.prog 22 #[.agg #[.slice ca p.code.length cc, .int .i64 p.ticks, .slice sa p.spans.length sc, .slice wa p.wires.length wc']] (w.alloc (.cells #[.slice ca p.code.length cc, .int .i64 p.ticks, .slice sa p.spans.length sc, .slice wa p.wires.length wc'] 26)) fun e w' => ∃ a : KW, e = .returned (.pointer (some ⟨a.kb, 0, none⟩)) ∧ (w.alloc (.cells #[.slice ca p.code.length cc, .int .i64 p.ticks, .slice sa p.spans.length sc, .slice wa p.wires.length wc'] 26)).heap.size ≤ a.lr ∧ RK w' (w.alloc (.cells #[.slice ca p.code.length cc, .int .i64 p.ticks, .slice sa p.spans.length sc, .slice wa p.wires.length wc'] 26)).heap.size p (.slice ca p.code.length cc) (.slice sa p.spans.length sc) (.slice wa p.wires.length wc') (newK p) a ∧ Below (w.alloc (.cells #[.slice ca p.code.length cc, .int .i64 p.ticks, .slice sa p.spans.length sc, .slice wa p.wires.length wc'] 26)).heap.size (w.alloc (.cells #[.slice ca p.code.length cc, .int .i64 p.ticks, .slice sa p.spans.length sc, .slice wa p.wires.length wc'] 26)) w') := hN
  clear hN
  go_enter Tryz.func9, Tryz.ntmps9
  go_upto_region 2 with (go_at_call 22; refine HN.out.mono ?_; rintro e w1 ⟨a, rfl, _, hR, b1⟩)
  clear HN
  generalize w.alloc (.cells #[.slice ca p.code.length cc, .int .i64 p.ticks, .slice sa p.spans.length sc, .slice wa p.wires.length wc'] 26) = W0 at *
  obtain ⟨s0, hs0, hg0⟩ := HGs.out 0
  have k4 := hR.c4
  have hrl : (newK p).rooms.length = p.code.length := by simp [newK]
  rw [hrl] at k4
  obtain ⟨q0, q1, q2, q3, q4, q5, q6, q7⟩ := hR.rooms r s0 hs0
  have HB1 : Hid (a.b1 ≤ w1.heap.size) := hR.le
  go_upto_region 3 with fail
  have hb1A : Below w1.heap.size w1 (w1.alloc (.cells #[.int .i64 s0.p, .int .i64 (s0.c 0), .int .i64 (s0.c 1), .int .i64 (s0.c 2), .int .i64 (s0.c 3), .int .i64 (s0.c 4), .int .i64 (s0.c 5), .bool s0.f] 39)) := (Below.refl _ _).alloc (Nat.le_refl _) _
  have hst : RSt W0 (w1.alloc (.cells #[.int .i64 s0.p, .int .i64 (s0.c 0), .int .i64 (s0.c 1), .int .i64 (s0.c 2), .int .i64 (s0.c 3), .int .i64 (s0.c 4), .int .i64 (s0.c 5), .bool s0.f] 39)) p (.slice ca p.code.length cc) (.slice sa p.spans.length sc) (.slice wa p.wires.length wc') a w1.heap.size r 0 (.slice (some ⟨w1.heap.size, 0, none⟩) 1 1) := by
    refine ⟨hR.all hb1A, ⟨?_, Or.inr ⟨w1.heap.size, 1, _, rfl, Nat.le_refl _, World.alloc_heap_new _ _, Nat.le_refl _, by unfold maxLen; omega, rfl, ?_⟩⟩, fun g hg hm => ?_, b1.trans (hb1A.mono b1.size), hR.le, hb1A.size⟩
    · rw [statesK_zero]
      simp [stCells]
    · rw [statesK_zero]
      have : (newK p).rooms.getD r stNew = s0 := hg0
      rw [this]
      simp [stCells]
    · simp only [Value.ownBlock, Option.some.injEq] at hg
      subst hg
      have := hR.flt _ hm
      omega
  clear hR k4 q0 q1 q2 q3 q4 q5 q6 q7 hb1A
  go_wp2
  go_loopw [8, 9] (fun v i wr => ∃ (t : Nat) (us : List Value), t ≤ n ∧ i = .int .i64 t ∧ RSt W0 wr p (.slice ca p.code.length cc) (.slice sa p.spans.length sc) (.slice wa p.wires.length wc') { a with us := us } w1.heap.size r t v) (fun _ i _ => n - (intOf i).toNat)
  case atStart => exact ⟨0, a.us, Nat.zero_le _, rfl, hst⟩
  case round =>
    clear hst
    obtain ⟨t, us, htn, rfl, hst⟩ := hrel
    obtain ⟨vg, vk, rfl⟩ := own_succ hst.own
    by_cases htl : t < n
    · have hti : (t : Int) < (n : Int) := by omega
      have HT : Hid (Calls Tryz.prog 23 #[.pointer (some ⟨a.kb, 0, none⟩)] wr fun e w' => ∃ ev us', e = .returned ev ∧ RK w' W0.heap.size p (.slice ca p.code.length cc) (.slice sa p.spans.length sc) (.slice wa p.wires.length wc') (kT p (t + 1)) { a with us := us' } ∧ w'.ownsRow w1.heap.size 39 8 (.slice (some ⟨vg, 0, none⟩) (t + 1) vk) (t + 1) (stCells (statesK p t r)) ∧ vg ∉ KF { a with us := us' } ∧ Below W0.heap.size W0 w' ∧ w1.heap.size ≤ w'.heap.size) := by
        refine (reftick_any p _ _ sa sc (kT p t) { a with us := us } W0.heap.size wr hp (kT_ok hp t) (by rw [kT_time]; omega) hst.R W0 rfl hst.below HP.out).mono ?_
        rintro e w' ⟨rfl, ⟨us', hR', hus⟩, tk⟩
        have hvlt := (hst.own.lt vg rfl).2
        have hnot : vg ∉ KW.m { a with us := us } := fun hm => hst.ap vg rfl (KF.m vg hm)
        have hkf := KF.us (a := { a with us := us }) hus
        refine ⟨_, us', rfl, hR', own_block hst.own (fun g hg => ?_), fun hm => ?_, hst.below.trans (tk.below hst.R.mge hst.below.size), Nat.le_trans hst.B2 tk.size⟩
        · simp only [Value.ownBlock, Option.some.injEq] at hg
          subst hg
          exact tk.block _ hvlt hnot
        · rcases hkf vg hm with h1 | h1
          · exact hst.ap vg rfl h1
          · omega
      clear hst
      obtain ⟨s, hs, hgs⟩ := HGs.out (t + 1)
      go_upto_region 7 with (go_at_call 23; refine HT.out.mono ?_; rintro e w3 ⟨ev, us', rfl, hR3, own3, ap3, bl3, sz3⟩)
      have k4 := hR3.c4
      rw [(kT_ok hp (t + 1)).rl] at k4
      obtain ⟨q0, q1, q2, q3, q4, q5, q6, q7⟩ := hR3.rooms r s hs
      have HR3 : Hid (RK w3 W0.heap.size p (.slice ca p.code.length cc) (.slice sa p.spans.length sc) (.slice wa p.wires.length wc') (kT p (t + 1)) { a with us := us' }) := hR3
      clear hR3 HT
      go_wp2_with (at_builtin; refine wpList_append_at _ rfl _ _ 35 rfl w1.heap.size 39 jj _ 8 64 Tryz.underlying35 hj hy0 hy1 hy2 rfl (by decide) _ _ _ rfl (own3.alloc _) ⟨w3.heap.size, 0, none⟩ 1 1 [.int .i64 s.p, .int .i64 (s.c 0), .int .i64 (s.c 1), .int .i64 (s.c 2), .int .i64 (s.c 3), .int .i64 (s.c 4), .int .i64 (s.c 5), .bool s.f] rfl rfl ?c1A ?c2A ?c3A ?c4A ?c5A ?_)
      try (case c1A => exact st_new rfl s _)
      case c2A => first | exact st_one s | exact ⟨rfl, rfl, rfl, rfl, rfl, rfl, rfl, rfl⟩
      case c3A => unfold maxLen; omega
      case c4A => omega
      case c5A => first | omega | (simp; omega)
      intro v1 w8 own8 hg8 hnw8
      have hb3 : Below w3.heap.size w3 (w3.alloc (.cells #[.int .i64 s.p, .int .i64 (s.c 0), .int .i64 (s.c 1), .int .i64 (s.c 2), .int .i64 (s.c 3), .int .i64 (s.c 4), .int .i64 (s.c 5), .bool s.f] 39)) := (Below.refl _ _).alloc (Nat.le_refl _) _
      have HST : Hid (RSt W0 w8 p (.slice ca p.code.length cc) (.slice sa p.spans.length sc) (.slice wa p.wires.length wc') { a with us := us' } w1.heap.size r (t + 1) v1) := by
        have tk := KTouch.row hb3 hg8
        have hm1 : ∀ m ∈ (Value.slice (some ⟨vg, 0, none⟩) (t + 1) vk).ownBlock.toList, m = vg := fun m hm => by simpa [Value.ownBlock] using hm
        refine ⟨HR3.out.frame tk (fun m hm => by rw [hm1 m hm]; exact ap3), ?_, fun g hg hm => ?_, bl3.trans (tk.below (fun m hm => ?_) bl3.size), ?_, Nat.le_trans sz3 tk.size⟩
        · rw [statesK_succ, stCells_snoc, hgs]
          exact own8
        · rcases hnw8 g hg with h1 | h1
          · simp only [Value.ownBlock, Option.some.injEq] at h1
            subst h1
            exact ap3 hm
          · have := HR3.out.flt g hm
            try simp at h1
            omega
        · rw [hm1 m hm]
          have := (own3.lt vg rfl).1
          have := HR3.out.le
          have := HR3.out.lt.1
          have := HR3.out.ge.1
          have h5 := b1.size
          omega
        · show a.b1 ≤ _
          exact HB1.out
      obtain ⟨g8, cap8, rfl⟩ := own_succ own8
      clear own8 hg8 hnw8 own3 q0 q1 q2 q3 q4 q5 q6 q7 k4 hb3
      go_wp2
      go_roundw
      case rel => exact ⟨t + 1, us', by omega, by go_num, HST.out⟩
      case measure => simp [intOf]; omega
    · obtain rfl : t = n := by omega
      have hti : decide ((t : Int) < (t : Int)) = false := decide_eq_false (by omega)
      have htn' : decide (t < t) = false := decide_eq_false (by omega)
      have HS : Hid (StL wr (.slice (some ⟨vg, 0, none⟩) (t + 1) vk) (statesK p t r)) := StL.own (by rw [statesK_len]; exact hst.own)
      have HB' : Hid (Below w.heap.size w wr) := hA.trans (hst.below.mono hA.size)
      clear hst
      go_wp2
      go_ret
      exact ⟨_, rfl, HS.out, HB'.out⟩
end Go.Proofs.YtajfgmlockjmhaeGreatDoor
