/-
  KFrame, KTwo, RStates: joined into one text.
-/
import Derived.Test.YtlegpedmfpbaiadGreatDoorKRefTick
import Derived.Test.YtlegpedmfpbaiadGreatDoorKRefNew
import Derived.Test.YtlegpedmfpbaiadGreatDoorJa2
import Derived.Test.YtlegpedmfpbaiadGreatDoorJa1
import Derived.Deep.RegionLaw
namespace Go.Proofs.YtlegpedmfpbaiadGreatDoor
open Go.RowKit

/-- The blocks of the document's kernel. -/
def KF (a : KW) : List Nat := a.kb :: a.rb :: a.lr :: (a.bs ++ a.us.filterMap Value.ownBlock)
theorem KF.m {a : KW} : ∀ g ∈ a.m, g ∈ KF a := fun g hg => by
  unfold KW.m at hg
  unfold KF
  simp only [List.mem_cons, List.mem_append] at hg ⊢
  rcases hg with h | h | h
  · exact Or.inl h
  · exact Or.inr (Or.inl h)
  · exact Or.inr (Or.inr (Or.inr (Or.inl h)))
theorem KF.us {a : KW} {us : List Value} {n : Nat} (h : ∀ u ∈ us, ∀ g, u.ownBlock = some g → OldU a g ∨ n ≤ g) : ∀ g ∈ KF { a with us := us }, g ∈ KF a ∨ n ≤ g := fun g hg => by
  unfold KF at hg ⊢
  simp only [List.mem_cons, List.mem_append, List.mem_filterMap] at hg ⊢
  rcases hg with h1 | h1 | h1 | h1 | ⟨u, h1, h2⟩
  · exact Or.inl (Or.inl h1)
  · exact Or.inl (Or.inr (Or.inl h1))
  · exact Or.inl (Or.inr (Or.inr (Or.inl h1)))
  · exact Or.inl (Or.inr (Or.inr (Or.inr (Or.inl h1))))
  · rcases h u h1 g h2 with ⟨u0, h3, h4⟩ | h3
    · exact Or.inl (Or.inr (Or.inr (Or.inr (Or.inr ⟨u0, h3, h4⟩))))
    · exact Or.inr h3
theorem RK.flt {w : World} {base : Nat} {p : PD} {vc vs vw : Value} {k : KD} {a : KW} (h : RK w base p vc vs vw k a) : ∀ g ∈ KF a, g < w.heap.size := fun g hg => by
  have hle := h.le
  unfold KF at hg
  simp only [List.mem_cons, List.mem_append, List.mem_filterMap] at hg
  rcases hg with h1 | h1 | h1 | h1 | ⟨u, h1, h2⟩
  · have := h.lt.1; omega
  · have := h.lt.2.1; omega
  · have := h.lt.2.2.1; omega
  · have := h.lt.2.2.2 g h1; omega
  · exact (h.rows u h1 g h2).2
/-- What is written elsewhere leaves it as it is. -/
theorem RK.frame {w w' : World} {base : Nat} {p : PD} {vc vs vw : Value} {k : KD} {a : KW} (h : RK w base p vc vs vw k a) {M : List Nat} (ht : KTouch M w w') (hM : ∀ m ∈ M, m ∉ KF a) : RK w' base p vc vs vw k a := by
  have hin : ∀ g, g ∈ KF a → w'.heap[g]? = w.heap[g]? := fun g hg => ht.block g (h.flt g hg) (fun hm => hM g hm hg)
  have m1 : a.kb ∈ KF a := by simp [KF]
  have m2 : a.rb ∈ KF a := by simp [KF]
  have m3 : a.lr ∈ KF a := by simp [KF]
  have m4 : ∀ b ∈ a.bs, b ∈ KF a := fun b hb => by simp [KF, hb]
  have m5 : ∀ u ∈ a.us, ∀ g, u.ownBlock = some g → g ∈ KF a := fun u hu g hg => by
    unfold KF
    simp only [List.mem_cons, List.mem_append, List.mem_filterMap]
    exact Or.inr (Or.inr (Or.inr (Or.inr ⟨u, hu, hg⟩)))
  have hc := fun o => World.cell?_of_block (w := w) (w' := w') (a := ⟨a.kb, o, none⟩) (hin _ m1)
  have hf := fun o => World.frozen?_of_block (w := w) (w' := w') (a := ⟨a.kb, o, none⟩) (hin _ m1)
  have hrf := fun o => World.frozen?_of_block (w := w) (w' := w') (a := ⟨a.rb, o, none⟩) (hin _ m2)
  have hlr := fun o => World.cell?_of_block (w := w) (w' := w') (a := ⟨a.lr, o, none⟩) (hin _ m3)
  refine ⟨(hc 0).trans h.c0, (hc 1).trans h.c1, (hc 2).trans h.c2, (hc 3).trans h.c3, (hc 4).trans h.c4, (hc 5).trans h.c5, (hc 6).trans h.c6, (hf 6).trans h.f6, fun i s hs => (h.rooms i s hs).block (hin _ m2), fun o => (hrf o).trans (h.rf o), h.lv, fun i b hi => (hlr i).trans (h.ptr i b hi), h.bl, h.ul, fun i l b u h1 h2 h3 => (h.line i l b u h1 h2 h3).touch ht (fun hm => ?_) (fun g hg hm => ?_), h.ge, h.lt, Nat.le_trans h.le ht.size, h.apart, h.two, h.ft.block (fun b hb => hin b (m4 b hb))⟩
  · exact hM b hm (m4 b (List.mem_of_getElem? h2))
  · exact hM g hm (m5 u (List.mem_of_getElem? h3) g hg)
end Go.Proofs.YtlegpedmfpbaiadGreatDoor
namespace Go.Proofs.YtlegpedmfpbaiadGreatDoor
open Go.RowKit

/-- Both are the same kernel, and neither has what the other one has. -/
structure Two {G : World → Prop} (C : KerC G) (w0 wr : World) (p : PD) (vc vs vw : Value) (k : KD) (kb : Nat) (F : List Nat) (a : KW) : Prop where
  K : C.K w0 wr p vc vs vw k kb F
  R : RK wr w0.heap.size p vc vs vw k a
  ap : ∀ g ∈ F, g ∉ KF a
  ok : KOk p k
  pln : Pln w0 vc vs vw p
theorem Two.flt {G : World → Prop} {C : KerC G} {w0 wr : World} {p : PD} {vc vs vw : Value} {k : KD} {kb : Nat} {F : List Nat} {a : KW} (h : Two C w0 wr p vc vs vw k kb F a) : ∀ g ∈ F ++ KF a, g < wr.heap.size := fun g hg => by
  rcases List.mem_append.1 hg with h1 | h1
  · exact (C.ge h.K g h1).2
  · exact h.R.flt g h1
/-- Nothing of them is touched. -/
theorem Two.all {G : World → Prop} {C : KerC G} {w0 wr w' : World} {p : PD} {vc vs vw : Value} {k : KD} {kb : Nat} {F : List Nat} {a : KW} (h : Two C w0 wr p vc vs vw k kb F a) (hb : Below wr.heap.size wr w') : Two C w0 w' p vc vs vw k kb F a :=
  ⟨C.frame h.K (KTouch.of (M := []) hb) (by simp), h.R.all hb, h.ap, h.ok, h.pln⟩
/-- A block of the caller's own is written. -/
theorem Two.set {G : World → Prop} {C : KerC G} {w0 wr w' : World} {p : PD} {vc vs vw : Value} {k : KD} {kb : Nat} {F : List Nat} {a : KW} (h : Two C w0 wr p vc vs vw k kb F a) {b : Nat} (ht : KTouch [b] wr w') (hb : b ∉ F ++ KF a) (hw : w0.heap.size ≤ b) : Two C w0 w' p vc vs vw k kb F a := by
  have h1 : b ∉ F := fun e => hb (List.mem_append.2 (Or.inl e))
  have h2 : b ∉ KF a := fun e => hb (List.mem_append.2 (Or.inr e))
  refine ⟨C.frame h.K ht (fun m hm => ?_), h.R.frame ht (fun m hm => ?_), h.ap, h.ok, h.pln⟩
  · rw [List.mem_singleton] at hm
    subst hm
    exact ⟨h1, hw⟩
  · rw [List.mem_singleton] at hm
    subst hm
    exact h2
/-- What came of a call on both. -/
structure Went {G : World → Prop} (C : KerC G) (w0 W w' : World) (p : PD) (vc vs vw : Value) (k' : KD) (kb : Nat) (F F' : List Nat) (a a' : KW) : Prop where
  two : Two C w0 w' p vc vs vw k' kb F' a'
  touch : KTouch (F ++ a.m) W w'
  new : ∀ g ∈ F' ++ KF a', g ∈ F ++ KF a ∨ W.heap.size ≤ g
  kb : a'.kb = a.kb
theorem own_m {F : List Nat} {a : KW} {b : Nat} (h : b ∈ F ++ a.m) : b ∈ F ++ KF a := by
  rcases List.mem_append.1 h with h | h
  · exact List.mem_append.2 (Or.inl h)
  · exact List.mem_append.2 (Or.inr (KF.m b h))
/-- What is touched lies behind what was there when they were made. -/
theorem Two.mge {G : World → Prop} {C : KerC G} {w0 wr : World} {p : PD} {vc vs vw : Value} {k : KD} {kb : Nat} {F : List Nat} {a : KW} (h : Two C w0 wr p vc vs vw k kb F a) : ∀ g ∈ F ++ a.m, w0.heap.size ≤ g := fun g hg => by
  rcases List.mem_append.1 hg with h1 | h1
  · exact (C.ge h.K g h1).1
  · exact h.R.mge g h1
/-- A block of the caller's own stays, and stays the caller's own. -/
theorem Went.keep {G : World → Prop} {C : KerC G} {w0 W w' : World} {p : PD} {vc vs vw : Value} {k' : KD} {kb : Nat} {F F' : List Nat} {a a' : KW} (h : Went C w0 W w' p vc vs vw k' kb F F' a a') {b : Nat} (hb : b < W.heap.size) (hn : b ∉ F ++ KF a) : w'.heap[b]? = W.heap[b]? ∧ b ∉ F' ++ KF a' := by
  refine ⟨h.touch.block b hb (fun hm => hn (own_m hm)), fun hm => ?_⟩
  rcases h.new b hm with h1 | h1
  · exact hn h1
  · omega
/-- A tick of both. -/
theorem two_tick {G : World → Prop} {C : KerC G} {w0 W : World} {p : PD} {vc vs vw : Value} {k : KD} {kb : Nat} {F : List Nat} {a : KW} (hG : G w0) (hp : plchk p = 0) (ht : k.time < 1000000) (h : Two C w0 W p vc vs vw k kb F a) :
    Calls Tryz.prog 11 #[.pointer (some ⟨kb, 0, none⟩)] W fun e w2 => e = .returned (evA (tickK p p.spans k).2) ∧
      Calls Tryz.prog 12 #[.pointer (some ⟨a.kb, 0, none⟩)] w2 fun e w' => e = .returned (evA (tickK p p.spans k).2) ∧ ∃ F' a', Went C w0 W w' p vc vs vw (tickK p p.spans k).1 kb F F' a a' := by
  refine (C.tick hG h.K hp h.ok ht).mono ?_
  rintro e w2 ⟨rfl, F', hK', tk, hF'⟩
  refine ⟨rfl, ?_⟩
  have hR2 : RK w2 w0.heap.size p vc vs vw k a := h.R.frame tk (fun m hm => h.ap m hm)
  have hB2 : Below w0.heap.size w0 w2 := C.since hK'
  obtain ⟨sa, sc, rfl⟩ := h.pln.spans.form
  refine (reftick_any p vc vw sa sc k a w0.heap.size w2 hp h.ok ht hR2 w0 rfl hB2 h.pln).mono ?_
  rintro e w' ⟨rfl, ⟨us, hR', hus⟩, tkr⟩
  have hmge := h.R.mge
  have hFlt : ∀ g ∈ F', g ∉ KF a := fun g hg hm => by
    rcases hF' g hg with h1 | h1
    · exact h.ap g h1 hm
    · have := h.R.flt g hm
      omega
  have hnew := KF.us hus
  refine ⟨rfl, F', { a with us := us }, ⟨C.frame hK' tkr (fun m hm => ⟨fun hmf => hFlt m hmf (KF.m m hm), hmge m hm⟩), hR', fun g hg hm => ?_, tick_ok hp h.ok, h.pln⟩, ?_, fun g hg => ?_, rfl⟩
  · rcases hnew g hm with h1 | h1
    · exact hFlt g hg h1
    · have := (C.ge hK' g hg).2
      omega
  · exact (tk.mono (fun m hm => List.mem_append.2 (Or.inl hm))).trans (tkr.mono (fun m hm => List.mem_append.2 (Or.inr hm)))
  · have hs := tk.size
    rcases List.mem_append.1 hg with h1 | h1
    · rcases hF' g h1 with h2 | h2
      · exact Or.inl (List.mem_append.2 (Or.inl h2))
      · exact Or.inr h2
    · rcases hnew g h1 with h2 | h2
      · exact Or.inl (List.mem_append.2 (Or.inr h2))
      · exact Or.inr (by omega)
theorem RK.lower {w : World} {base base' : Nat} {p : PD} {vc vs vw : Value} {k : KD} {a : KW} (h : RK w base p vc vs vw k a) (hb : base' ≤ base) : RK w base' p vc vs vw k a :=
  ⟨h.c0, h.c1, h.c2, h.c3, h.c4, h.c5, h.c6, h.f6, h.rooms, h.rf, h.lv, h.ptr, h.bl, h.ul, h.line, ⟨Nat.le_trans hb h.ge.1, Nat.le_trans hb h.ge.2.1, fun b hm => Nat.le_trans hb (h.ge.2.2 b hm)⟩, h.lt, h.le, h.apart, h.two, h.ft⟩
/-- Both are made. -/
theorem two_new {G : World → Prop} {C : KerC G} {w0 w2 W w3 : World} {p : PD} {vc vs vw : Value} {kb : Nat} {F : List Nat} {a : KW} (hp : plchk p = 0) (hP : Pln w0 vc vs vw p) (hK : C.K w0 w2 p vc vs vw (newK p) kb F) (hb : Below w2.heap.size w2 W) (hR : RK w3 W.heap.size p vc vs vw (newK p) a) (hlr : W.heap.size ≤ a.lr) (hb3 : Below W.heap.size W w3) : Two C w0 w3 p vc vs vw (newK p) kb F a := by
  have hs := (C.since hK).size
  have hs2 := hb.size
  refine ⟨C.frame hK (KTouch.of (M := []) (hb.trans (hb3.mono hs2))) (by simp), hR.lower (by omega), fun g hg hm => ?_, new_ok hp, hP⟩
  have hlt := (C.ge hK g hg).2
  unfold KF at hm
  simp only [List.mem_cons, List.mem_append, List.mem_filterMap] at hm
  rcases hm with h1 | h1 | h1 | h1 | ⟨u, h1, h2⟩
  · have := hR.ge.1; omega
  · have := hR.ge.2.1; omega
  · omega
  · have := hR.ge.2.2 g h1; omega
  · have := (hR.rows u h1 g h2).1
    have := hR.lt.1
    have := hR.ge.1
    omega
end Go.Proofs.YtlegpedmfpbaiadGreatDoor
namespace Go.Proofs.YtlegpedmfpbaiadGreatDoor
open Go.RowKit

/-- The row of a caller's own has grown. -/
theorem KTouch.row {w w2 wa : World} {row : Option Nat} (hb : Below w.heap.size w w2) (hg : w2.grownBy wa row) : KTouch row.toList w wa :=
  ⟨hg.os.trans hb.os, hg.tape.trans hb.tape, hg.output.trans hb.output, Nat.le_trans hb.size hg.size, fun k hk hm => by
    have := hb.size
    exact (hg.block k (by omega) (fun e => hm (by rw [← e]; simp))).trans (hb.block k hk)⟩
/-- The document's kernel, and a row of states beside it. -/
structure RSt (w wr : World) (p : PD) (vc vs vw : Value) (a : KW) (B r t : Nat) (v : Value) : Prop where
  R : RK wr w.heap.size p vc vs vw (kT p t) a
  own : wr.ownsRow B 46 8 v (t + 1) (stCells (statesK p t r))
  ap : ∀ g, v.ownBlock = some g → g ∉ KF a
  below : Below w.heap.size w wr
  B1 : a.b1 ≤ B
  B2 : B ≤ wr.heap.size
set_option maxRecDepth 100000 in
set_option maxHeartbeats 8000000 in
theorem rstates_any (p : PD) (vc vs vw : Value) (n r : Nat) (w : World) (hp : plchk p = 0) (hP : Pln w vc vs vw p) (hn : n ≤ 2000) (hr : r < p.code.length) :
    Calls Tryz.prog 17 #[plV vc p.ticks vs vw, .int .i64 n, .int .i64 r] w fun e w' => ∃ v, e = .returned v ∧ StL w' v (statesK p n r) ∧ Below w.heap.size w w' := by
  obtain ⟨jj, hj, hy0, hy1, hy2⟩ := info_parts infoSt
  obtain ⟨ca, cc, rfl⟩ := hP.code.form
  obtain ⟨sa, sc, rfl⟩ := hP.spans.form
  obtain ⟨wa, wc', rfl⟩ := hP.wires.form
  have hA : Below w.heap.size w (w.alloc (.cells #[.slice ca p.code.length cc, .int .i64 p.ticks, .slice sa p.spans.length sc, .slice wa p.wires.length wc'] 26)) := (Below.refl _ _).alloc (Nat.le_refl _) _
  have hN := newkernel_any p _ _ _ _ hp (hP.all hA)
  unfold plV at hN ⊢
  have HP : Hid (Pln (w.alloc (.cells #[.slice ca p.code.length cc, .int .i64 p.ticks, .slice sa p.spans.length sc, .slice wa p.wires.length wc'] 26)) (.slice ca p.code.length cc) (.slice sa p.spans.length sc) (.slice wa p.wires.length wc') p) := hP.all hA
  have hgs : ∀ t, ∃ s, (kT p t).rooms[r]? = some s ∧ (kT p t).rooms.getD r stNew = s := fun t => by
    have hlt : r < (kT p t).rooms.length := by rw [(kT_ok hp t).rl]; exact hr
    exact ⟨_, List.getElem?_eq_getElem hlt, by simp [List.getD, hlt]⟩
  have HGs : Hid (∀ t, ∃ s, (kT p t).rooms[r]? = some s ∧ (kT p t).rooms.getD r stNew = s) := hgs
  have hri : (r : Int) < (p.code.length : Int) := by omega
  clear hP hgs
  have HN : Hid (Calls Tryz.prog 8 #[.agg #[.slice ca p.code.length cc, .int .i64 p.ticks, .slice sa p.spans.length sc, .slice wa p.wires.length wc']] (w.alloc (.cells #[.slice ca p.code.length cc, .int .i64 p.ticks, .slice sa p.spans.length sc, .slice wa p.wires.length wc'] 26)) fun e w' => ∃ a : KW, e = .returned (.pointer (some ⟨a.kb, 0, none⟩)) ∧ (w.alloc (.cells #[.slice ca p.code.length cc, .int .i64 p.ticks, .slice sa p.spans.length sc, .slice wa p.wires.length wc'] 26)).heap.size ≤ a.lr ∧ RK w' (w.alloc (.cells #[.slice ca p.code.length cc, .int .i64 p.ticks, .slice sa p.spans.length sc, .slice wa p.wires.length wc'] 26)).heap.size p (.slice ca p.code.length cc) (.slice sa p.spans.length sc) (.slice wa p.wires.length wc') (newK p) a ∧ Below (w.alloc (.cells #[.slice ca p.code.length cc, .int .i64 p.ticks, .slice sa p.spans.length sc, .slice wa p.wires.length wc'] 26)).heap.size (w.alloc (.cells #[.slice ca p.code.length cc, .int .i64 p.ticks, .slice sa p.spans.length sc, .slice wa p.wires.length wc'] 26)) w') := hN
  clear hN
  go_enter Tryz.func17, Tryz.ntmps17
  go_upto_region 2 with (go_at_call 8; refine HN.out.mono ?_; rintro e w1 ⟨a, rfl, _, hR, b1⟩)
  clear HN
  generalize w.alloc (.cells #[.slice ca p.code.length cc, .int .i64 p.ticks, .slice sa p.spans.length sc, .slice wa p.wires.length wc'] 26) = W0 at *
  obtain ⟨s0, hs0, hg0⟩ := HGs.out 0
  have k4 := hR.c4
  have hrl : (newK p).rooms.length = p.code.length := by simp [newK]
  rw [hrl] at k4
  obtain ⟨q0, q1, q2, q3, q4, q5, q6, q7⟩ := hR.rooms r s0 hs0
  have HB1 : Hid (a.b1 ≤ w1.heap.size) := hR.le
  go_upto_region 3 with fail
  have hb1A : Below w1.heap.size w1 (w1.alloc (.cells #[.int .i64 s0.p, .int .i64 (s0.c 0), .int .i64 (s0.c 1), .int .i64 (s0.c 2), .int .i64 (s0.c 3), .int .i64 (s0.c 4), .int .i64 (s0.c 5), .bool s0.f] 46)) := (Below.refl _ _).alloc (Nat.le_refl _) _
  have hst : RSt W0 (w1.alloc (.cells #[.int .i64 s0.p, .int .i64 (s0.c 0), .int .i64 (s0.c 1), .int .i64 (s0.c 2), .int .i64 (s0.c 3), .int .i64 (s0.c 4), .int .i64 (s0.c 5), .bool s0.f] 46)) p (.slice ca p.code.length cc) (.slice sa p.spans.length sc) (.slice wa p.wires.length wc') a w1.heap.size r 0 (.slice (some ⟨w1.heap.size, 0, none⟩) 1 1) := by
    refine ⟨hR.all hb1A, ⟨?_, Or.inr ⟨w1.heap.size, 1, _, rfl, Nat.le_refl _, World.alloc_heap_new _ _, Nat.le_refl _, by unfold maxLen; omega, rfl, ?_⟩⟩, fun g hg hm => ?_, b1.trans (hb1A.mono b1.size), hR.le, hb1A.size⟩
    · rw [statesK_zero]
      simp [stCells]
    · rw [statesK_zero]
      have : (newK p).rooms.getD r stNew = s0 := hg0
      rw [this]
      simp [stCells]
    · simp only [Value.ownBlock, Option.some.injEq] at hg
      subst hg
      have := hR.flt _ hm
      omega
  clear hR k4 q0 q1 q2 q3 q4 q5 q6 q7 hb1A
  go_wp2
  go_loopw [8, 9] (fun v i wr => ∃ (t : Nat) (us : List Value), t ≤ n ∧ i = .int .i64 t ∧ RSt W0 wr p (.slice ca p.code.length cc) (.slice sa p.spans.length sc) (.slice wa p.wires.length wc') { a with us := us } w1.heap.size r t v) (fun _ i _ => n - (intOf i).toNat)
  case atStart => exact ⟨0, a.us, Nat.zero_le _, rfl, hst⟩
  case round =>
    clear hst
    obtain ⟨t, us, htn, rfl, hst⟩ := hrel
    obtain ⟨vg, vk, rfl⟩ := own_succ hst.own
    by_cases htl : t < n
    · have hti : (t : Int) < (n : Int) := by omega
      have HT : Hid (Calls Tryz.prog 12 #[.pointer (some ⟨a.kb, 0, none⟩)] wr fun e w' => ∃ ev us', e = .returned ev ∧ RK w' W0.heap.size p (.slice ca p.code.length cc) (.slice sa p.spans.length sc) (.slice wa p.wires.length wc') (kT p (t + 1)) { a with us := us' } ∧ w'.ownsRow w1.heap.size 46 8 (.slice (some ⟨vg, 0, none⟩) (t + 1) vk) (t + 1) (stCells (statesK p t r)) ∧ vg ∉ KF { a with us := us' } ∧ Below W0.heap.size W0 w' ∧ w1.heap.size ≤ w'.heap.size) := by
        refine (reftick_any p _ _ sa sc (kT p t) { a with us := us } W0.heap.size wr hp (kT_ok hp t) (by rw [kT_time]; omega) hst.R W0 rfl hst.below HP.out).mono ?_
        rintro e w' ⟨rfl, ⟨us', hR', hus⟩, tk⟩
        have hvlt := (hst.own.lt vg rfl).2
        have hnot : vg ∉ KW.m { a with us := us } := fun hm => hst.ap vg rfl (KF.m vg hm)
        have hkf := KF.us (a := { a with us := us }) hus
        refine ⟨_, us', rfl, hR', own_block hst.own (fun g hg => ?_), fun hm => ?_, hst.below.trans (tk.below hst.R.mge hst.below.size), Nat.le_trans hst.B2 tk.size⟩
        · simp only [Value.ownBlock, Option.some.injEq] at hg
          subst hg
          exact tk.block _ hvlt hnot
        · rcases hkf vg hm with h1 | h1
          · exact hst.ap vg rfl h1
          · omega
      clear hst
      obtain ⟨s, hs, hgs⟩ := HGs.out (t + 1)
      go_upto_region 7 with (go_at_call 12; refine HT.out.mono ?_; rintro e w3 ⟨ev, us', rfl, hR3, own3, ap3, bl3, sz3⟩)
      have k4 := hR3.c4
      rw [(kT_ok hp (t + 1)).rl] at k4
      obtain ⟨q0, q1, q2, q3, q4, q5, q6, q7⟩ := hR3.rooms r s hs
      have HR3 : Hid (RK w3 W0.heap.size p (.slice ca p.code.length cc) (.slice sa p.spans.length sc) (.slice wa p.wires.length wc') (kT p (t + 1)) { a with us := us' }) := hR3
      clear hR3 HT
      go_wp2_with (at_builtin; refine wpList_append_at _ rfl _ _ 47 rfl w1.heap.size 46 jj _ 8 64 Tryz.underlying47 hj hy0 hy1 hy2 rfl (by decide) _ _ _ rfl (own3.alloc _) ⟨w3.heap.size, 0, none⟩ 1 1 [.int .i64 s.p, .int .i64 (s.c 0), .int .i64 (s.c 1), .int .i64 (s.c 2), .int .i64 (s.c 3), .int .i64 (s.c 4), .int .i64 (s.c 5), .bool s.f] rfl rfl ?c1A ?c2A ?c3A ?c4A ?c5A ?_)
      try (case c1A => exact st_new rfl s _)
      case c2A => first | exact st_one s | exact ⟨rfl, rfl, rfl, rfl, rfl, rfl, rfl, rfl⟩
      case c3A => unfold maxLen; omega
      case c4A => omega
      case c5A => first | omega | (simp; omega)
      intro v1 w8 own8 hg8 hnw8
      have hb3 : Below w3.heap.size w3 (w3.alloc (.cells #[.int .i64 s.p, .int .i64 (s.c 0), .int .i64 (s.c 1), .int .i64 (s.c 2), .int .i64 (s.c 3), .int .i64 (s.c 4), .int .i64 (s.c 5), .bool s.f] 46)) := (Below.refl _ _).alloc (Nat.le_refl _) _
      have HST : Hid (RSt W0 w8 p (.slice ca p.code.length cc) (.slice sa p.spans.length sc) (.slice wa p.wires.length wc') { a with us := us' } w1.heap.size r (t + 1) v1) := by
        have tk := KTouch.row hb3 hg8
        have hm1 : ∀ m ∈ (Value.slice (some ⟨vg, 0, none⟩) (t + 1) vk).ownBlock.toList, m = vg := fun m hm => by simpa [Value.ownBlock] using hm
        refine ⟨HR3.out.frame tk (fun m hm => by rw [hm1 m hm]; exact ap3), ?_, fun g hg hm => ?_, bl3.trans (tk.below (fun m hm => ?_) bl3.size), ?_, Nat.le_trans sz3 tk.size⟩
        · rw [statesK_succ, stCells_snoc, hgs]
          exact own8
        · rcases hnw8 g hg with h1 | h1
          · simp only [Value.ownBlock, Option.some.injEq] at h1
            subst h1
            exact ap3 hm
          · have := HR3.out.flt g hm
            try simp at h1
            omega
        · rw [hm1 m hm]
          have := (own3.lt vg rfl).1
          have := HR3.out.le
          have := HR3.out.lt.1
          have := HR3.out.ge.1
          have h5 := b1.size
          omega
        · show a.b1 ≤ _
          exact HB1.out
      obtain ⟨g8, cap8, rfl⟩ := own_succ own8
      clear own8 hg8 hnw8 own3 q0 q1 q2 q3 q4 q5 q6 q7 k4 hb3
      go_wp2
      go_roundw
      case rel => exact ⟨t + 1, us', by omega, by go_num, HST.out⟩
      case measure => simp [intOf]; omega
    · obtain rfl : t = n := by omega
      have hti : decide ((t : Int) < (t : Int)) = false := decide_eq_false (by omega)
      have htn' : decide (t < t) = false := decide_eq_false (by omega)
      have HS : Hid (StL wr (.slice (some ⟨vg, 0, none⟩) (t + 1) vk) (statesK p t r)) := StL.own (by rw [statesK_len]; exact hst.own)
      have HB' : Hid (Below w.heap.size w wr) := hA.trans (hst.below.mono hA.size)
      clear hst
      go_wp2
      go_ret
      exact ⟨_, rfl, HS.out, HB'.out⟩
end Go.Proofs.YtlegpedmfpbaiadGreatDoor
