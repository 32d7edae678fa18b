/-
  KFrame, KRefTk, RunEv: joined into one text.
-/
import Derived.Test.YtfconbblnmbnpahGreatDoorKRefTick
import Derived.Test.YtfconbblnmbnpahGreatDoorKRefNew
import Derived.Deep.CutRange
import Derived.Deep.RegionWith
import Derived.BigQuiet
import Derived.RangeFuncNested
import Derived.Test.YtfconbblnmbnpahGreatDoorJb2
import Derived.Test.YtfconbblnmbnpahGreatDoorJb1
namespace Go.Proofs.YtfconbblnmbnpahGreatDoor
open Go.RowKit

/-- The blocks of the document's kernel. -/
def KF (a : KW) : List Nat := a.kb :: a.rb :: a.lr :: (a.bs ++ a.us.filterMap Value.ownBlock)
theorem KF.m {a : KW} : ∀ g ∈ a.m, g ∈ KF a := fun g hg => by
  unfold KW.m at hg
  unfold KF
  simp only [List.mem_cons, List.mem_append] at hg ⊢
  rcases hg with h | h | h
  · exact Or.inl h
  · exact Or.inr (Or.inl h)
  · exact Or.inr (Or.inr (Or.inr (Or.inl h)))
theorem KF.us {a : KW} {us : List Value} {n : Nat} (h : ∀ u ∈ us, ∀ g, u.ownBlock = some g → OldU a g ∨ n ≤ g) : ∀ g ∈ KF { a with us := us }, g ∈ KF a ∨ n ≤ g := fun g hg => by
  unfold KF at hg ⊢
  simp only [List.mem_cons, List.mem_append, List.mem_filterMap] at hg ⊢
  rcases hg with h1 | h1 | h1 | h1 | ⟨u, h1, h2⟩
  · exact Or.inl (Or.inl h1)
  · exact Or.inl (Or.inr (Or.inl h1))
  · exact Or.inl (Or.inr (Or.inr (Or.inl h1)))
  · exact Or.inl (Or.inr (Or.inr (Or.inr (Or.inl h1))))
  · rcases h u h1 g h2 with ⟨u0, h3, h4⟩ | h3
    · exact Or.inl (Or.inr (Or.inr (Or.inr (Or.inr ⟨u0, h3, h4⟩))))
    · exact Or.inr h3
theorem RK.flt {w : World} {base : Nat} {p : PD} {vc vs vw : Value} {k : KD} {a : KW} (h : RK w base p vc vs vw k a) : ∀ g ∈ KF a, g < w.heap.size := fun g hg => by
  have hle := h.le
  unfold KF at hg
  simp only [List.mem_cons, List.mem_append, List.mem_filterMap] at hg
  rcases hg with h1 | h1 | h1 | h1 | ⟨u, h1, h2⟩
  · have := h.lt.1; omega
  · have := h.lt.2.1; omega
  · have := h.lt.2.2.1; omega
  · have := h.lt.2.2.2 g h1; omega
  · exact (h.rows u h1 g h2).2
/-- What is written elsewhere leaves it as it is. -/
theorem RK.frame {w w' : World} {base : Nat} {p : PD} {vc vs vw : Value} {k : KD} {a : KW} (h : RK w base p vc vs vw k a) {M : List Nat} (ht : KTouch M w w') (hM : ∀ m ∈ M, m ∉ KF a) : RK w' base p vc vs vw k a := by
  have hin : ∀ g, g ∈ KF a → w'.heap[g]? = w.heap[g]? := fun g hg => ht.block g (h.flt g hg) (fun hm => hM g hm hg)
  have m1 : a.kb ∈ KF a := by simp [KF]
  have m2 : a.rb ∈ KF a := by simp [KF]
  have m3 : a.lr ∈ KF a := by simp [KF]
  have m4 : ∀ b ∈ a.bs, b ∈ KF a := fun b hb => by simp [KF, hb]
  have m5 : ∀ u ∈ a.us, ∀ g, u.ownBlock = some g → g ∈ KF a := fun u hu g hg => by
    unfold KF
    simp only [List.mem_cons, List.mem_append, List.mem_filterMap]
    exact Or.inr (Or.inr (Or.inr (Or.inr ⟨u, hu, hg⟩)))
  have hc := fun o => World.cell?_of_block (w := w) (w' := w') (a := ⟨a.kb, o, none⟩) (hin _ m1)
  have hf := fun o => World.frozen?_of_block (w := w) (w' := w') (a := ⟨a.kb, o, none⟩) (hin _ m1)
  have hrf := fun o => World.frozen?_of_block (w := w) (w' := w') (a := ⟨a.rb, o, none⟩) (hin _ m2)
  have hlr := fun o => World.cell?_of_block (w := w) (w' := w') (a := ⟨a.lr, o, none⟩) (hin _ m3)
  refine ⟨(hc 0).trans h.c0, (hc 1).trans h.c1, (hc 2).trans h.c2, (hc 3).trans h.c3, (hc 4).trans h.c4, (hc 5).trans h.c5, (hc 6).trans h.c6, (hf 6).trans h.f6, fun i s hs => (h.rooms i s hs).block (hin _ m2), fun o => (hrf o).trans (h.rf o), h.lv, fun i b hi => (hlr i).trans (h.ptr i b hi), h.bl, h.ul, fun i l b u h1 h2 h3 => (h.line i l b u h1 h2 h3).touch ht (fun hm => ?_) (fun g hg hm => ?_), h.ge, h.lt, Nat.le_trans h.le ht.size, h.apart, h.two, h.ft.block (fun b hb => hin b (m4 b hb))⟩
  · exact hM b hm (m4 b (List.mem_of_getElem? h2))
  · exact hM g hm (m5 u (List.mem_of_getElem? h3) g hg)
theorem RK.lower {w : World} {base base' : Nat} {p : PD} {vc vs vw : Value} {k : KD} {a : KW} (h : RK w base p vc vs vw k a) (hb : base' ≤ base) : RK w base' p vc vs vw k a :=
  ⟨h.c0, h.c1, h.c2, h.c3, h.c4, h.c5, h.c6, h.f6, h.rooms, h.rf, h.lv, h.ptr, h.bl, h.ul, h.line, ⟨Nat.le_trans hb h.ge.1, Nat.le_trans hb h.ge.2.1, fun b hm => Nat.le_trans hb (h.ge.2.2 b hm)⟩, h.lt, h.le, h.apart, h.two, h.ft⟩
end Go.Proofs.YtfconbblnmbnpahGreatDoor
namespace Go.Proofs.YtfconbblnmbnpahGreatDoor
open Go.RowKit

/-- Tick: by the plan's own spans. -/
theorem reftick_any (p : PD) (vc vw : Value) (sa : Option Addr) (sc : Nat) (k : KD) (a : KW) (base : Nat) (w : World) (hp : plchk p = 0) (hk : KOk p k) (ht : k.time < 100000000) (h : RK w base p vc (.slice sa p.spans.length sc) vw k a) (w0 : World) (hw00 : base = w0.heap.size) (hb0 : Below w0.heap.size w0 w) (hP : Pln w0 vc (.slice sa p.spans.length sc) vw p) :
    Calls Tryz.prog 9 #[.pointer (some ⟨a.kb, 0, none⟩)] w fun e w' => e = .returned (.agg #[.int .i64 (tickK p p.spans k).2.1, .int .i64 (tickK p p.spans k).2.2.1, .int .i64 (tickK p p.spans k).2.2.2.1, .int .i64 (tickK p p.spans k).2.2.2.2]) ∧ (∃ us, RK w' base p vc (.slice sa p.spans.length sc) vw (tickK p p.spans k).1 { a with us := us } ∧ ∀ u ∈ us, ∀ g, u.ownBlock = some g → OldU a g ∨ w.heap.size ≤ g) ∧ KTouch a.m w w' := by
  have hB : Below w.heap.size w (w.alloc (.cells #[.int .i64 0, .int .i64 0, .int .i64 0, .int .i64 0] 32)) := (Below.refl _ w).alloc (Nat.le_refl _) _
  have h1 := h.all hB
  have c2 := h1.c2
  have hq := tickby_any p vc (.slice sa p.spans.length sc) vw p.spans sa sc k a base _ hp hk ht h1 w0 hw00 (hb0.trans (hB.mono hb0.size)) hP.code hP.spans (fchk_zero (plchk_zero hp).2.2.1).2.2.1 (fun t => who_room hp t)
  obtain ⟨t1, ht1⟩ : ∃ x, (tickK p p.spans k).2.1 = x := ⟨_, rfl⟩
  obtain ⟨t2, ht2⟩ : ∃ x, (tickK p p.spans k).2.2.1 = x := ⟨_, rfl⟩
  obtain ⟨t3, ht3⟩ : ∃ x, (tickK p p.spans k).2.2.2.1 = x := ⟨_, rfl⟩
  obtain ⟨t4, ht4⟩ : ∃ x, (tickK p p.spans k).2.2.2.2 = x := ⟨_, rfl⟩
  obtain ⟨k', hk'⟩ : ∃ x, (tickK p p.spans k).1 = x := ⟨_, rfl⟩
  rw [ht1, ht2, ht3, ht4, hk'] at hq
  rw [ht1, ht2, ht3, ht4, hk']
  clear ht1 ht2 ht3 ht4 hk' hP hp hk
  have hmlt : w.heap.size ∉ a.m := fun hm => by have := h.mlt _ hm; have := h.le; omega
  have hle := h.le
  have hold : ∀ g, OldU a g → g < w.heap.size := fun g ⟨u, h2, h3⟩ => (h.rows u h2 g h3).2
  have hbox : (w.alloc (.cells #[.int .i64 0, .int .i64 0, .int .i64 0, .int .i64 0] 32)).heap[w.heap.size]? = some (.cells #[.int .i64 0, .int .i64 0, .int .i64 0, .int .i64 0] 32 (0, 0)) := World.alloc_heap_new w _
  go_enter Tryz.func9, Tryz.ntmps9
  have hst : ∀ w1 : World, KTouch a.m (w.alloc (.cells #[.int .i64 0, .int .i64 0, .int .i64 0, .int .i64 0] 32)) w1 → EvB w1 w.heap.size 0 0 0 0 := fun w1 hk => (hk.block _ (by simp) hmlt).trans hbox
  go_wp2_with (go_at_call 35; refine hq.mono ?_; rintro e w1 ⟨rfl, ⟨us, hr, hu⟩, tk⟩; clear hq; have hev := hst w1 tk; obtain ⟨v0, v1, v2, v3⟩ := hev.cs; obtain ⟨x0, x1, x2, x3⟩ := hev.fs)
  have tkE : KTouch [w.heap.size] w1 ((((w1.setCell ⟨w.heap.size, 0, none⟩ (.int .i64 t1)).setCell ⟨w.heap.size, 1, none⟩ (.int .i64 t2)).setCell ⟨w.heap.size, 2, none⟩ (.int .i64 t3)).setCell ⟨w.heap.size, 3, none⟩ (.int .i64 t4)) := (((KTouch.set w1 (by simp) 0 _).trans (KTouch.set _ (by simp) 1 _)).trans (KTouch.set _ (by simp) 2 _)).trans (KTouch.set _ (by simp) 3 _)
  have hu2 : ∀ u ∈ us, ∀ g, u.ownBlock = some g → OldU a g ∨ w.heap.size + 1 ≤ g := fun u h2 g hg => by
    have := hu u h2 g hg
    rw [World.size_alloc] at this
    exact this
  refine bodyPost_ret (v := .agg #[.int .i64 t1, .int .i64 t2, .int .i64 t3, .int .i64 t4]) ?_ rfl ⟨rfl, ⟨us, hr.touch tkE (fun m hm => ?_), fun u h2 g hg => (hu2 u h2 g hg).imp id (fun h => by omega)⟩, ((KTouch.of hB).trans tk).more tkE (by simp)⟩
  · simp [results, Tryz.results9, go_sem, v0, v1, v2, v3]
  · rw [List.mem_singleton] at hm
    subst hm
    refine ⟨hle, fun u h2 hg => ?_⟩
    rcases hu2 u h2 _ hg with h3 | h3
    · have := hold _ h3
      omega
    · omega
end Go.Proofs.YtfconbblnmbnpahGreatDoor
namespace Go.Proofs.YtfconbblnmbnpahGreatDoor
open Go.RowKit

/-- The row of a caller's own has grown. -/
theorem ktouch_row {w w2 wa : World} {row : Option Nat} (hb : Below w.heap.size w w2) (hg : w2.grownBy wa row) : KTouch row.toList w wa :=
  ⟨hg.os.trans hb.os, hg.tape.trans hb.tape, hg.output.trans hb.output, Nat.le_trans hb.size hg.size, fun k hk hm => by
    have := hb.size
    exact (hg.block k (by omega) (fun e => hm (by rw [← e]; simp))).trans (hb.block k hk)⟩
/-- The kernel behind t ticks; the row has what was told of them. -/
structure REv (w wr : World) (p : PD) (vc vs vw : Value) (a : KW) (B t : Nat) (v : Value) : Prop where
  R : RK wr w.heap.size p vc vs vw (kT p t) a
  own : wr.ownsRow B 32 4 v t (wrCells (runL p t))
  ap : ∀ g, v.ownBlock = some g → g ∉ KF a
  below : Below w.heap.size w wr
  B1 : w.heap.size ≤ B
  B2 : B ≤ wr.heap.size
theorem REv.first {w w1 : World} {p : PD} {vc vs vw : Value} {a : KW} (hR : RK w1 w.heap.size p vc vs vw (newK p) a) (hb : Below w.heap.size w w1) : REv w w1 p vc vs vw a w1.heap.size 0 (.slice none 0 0) :=
  ⟨hR, World.ownsRow_nil _ _ _ _, fun g hg => (by cases hg), hb, hb.size, Nat.le_refl _⟩
/-- A tick: what is told, the kernel then; and the row as it was. -/
theorem rev_tick {w wr : World} {p : PD} {vc vw : Value} {sa : Option Addr} {sc : Nat} {a : KW} {B t : Nat} {v : Value} (hp : plchk p = 0) (hP : Pln w vc (.slice sa p.spans.length sc) vw p) (ht : t < 1000000) (h : REv w wr p vc (.slice sa p.spans.length sc) vw a B t v) :
    Calls Tryz.prog 9 #[.pointer (some ⟨a.kb, 0, none⟩)] wr fun e w' => e = .returned (.agg #[.int .i64 (evK p (kT p t)).1, .int .i64 (evK p (kT p t)).2.1, .int .i64 (evK p (kT p t)).2.2.1, .int .i64 (evK p (kT p t)).2.2.2]) ∧ ∃ us, RK w' w.heap.size p vc (.slice sa p.spans.length sc) vw (kT p (t + 1)) { a with us := us } ∧ w'.ownsRow B 32 4 v t (wrCells (runL p t)) ∧ (∀ g, v.ownBlock = some g → g ∉ KF { a with us := us }) ∧ Below w.heap.size w w' ∧ B ≤ w'.heap.size := by
  refine (reftick_any p _ _ sa sc (kT p t) a w.heap.size wr hp (kT_ok hp t) (by rw [kT_time]; omega) h.R w rfl h.below hP).mono ?_
  rintro e w' ⟨rfl, ⟨us', hR', hus⟩, tk⟩
  have hkf := KF.us (a := a) hus
  refine ⟨rfl, us', hR', own_block h.own (fun g hg => ?_), fun g hg hm => ?_, h.below.trans (tk.below h.R.mge h.below.size), Nat.le_trans h.B2 tk.size⟩
  · exact tk.block _ (h.own.lt g hg).2 (fun hm => h.ap g hg (KF.m g hm))
  · rcases hkf g hm with h1 | h1
    · exact h.ap g hg h1
    · have := (h.own.lt g hg).2
      omega
/-- The row has one more. -/
theorem rev_more {w w3 w5 w8 : World} {p : PD} {vc vs vw : Value} {a : KW} {B t : Nat} {v v1 : Value} (hR : RK w3 w.heap.size p vc vs vw (kT p (t + 1)) a) (own : w3.ownsRow B 32 4 v t (wrCells (runL p t))) (ap : ∀ g, v.ownBlock = some g → g ∉ KF a) (hbl : Below w.heap.size w w3) (hB1 : w.heap.size ≤ B) (hB2 : B ≤ w3.heap.size) (hb5 : Below w3.heap.size w3 w5) (hg : w5.grownBy w8 v.ownBlock)
    (own8 : w8.ownsRow B 32 4 v1 (t + 1) (wrCells (runL p t) ++ [.int .i64 (evK p (kT p t)).1, .int .i64 (evK p (kT p t)).2.1, .int .i64 (evK p (kT p t)).2.2.1, .int .i64 (evK p (kT p t)).2.2.2])) (hnw : ∀ k, v1.ownBlock = some k → v.ownBlock = some k ∨ w5.heap.size ≤ k) : REv w w8 p vc vs vw a B (t + 1) v1 := by
  have tk := ktouch_row hb5 hg
  have hs5 := hb5.size
  have hm1 : ∀ m ∈ v.ownBlock.toList, v.ownBlock = some m := fun m hm => by simpa using hm
  refine ⟨hR.frame tk (fun m hm => ap m (hm1 m hm)), ?_, fun g hg2 hm => ?_, hbl.trans (tk.below (fun m hm => ?_) hbl.size), hB1, Nat.le_trans hB2 tk.size⟩
  · rw [runL_succ, wrCells_snoc]
    exact own8
  · rcases hnw g hg2 with h1 | h1
    · exact ap g h1 hm
    · have := hR.flt g hm
      omega
  · have := (own.lt m (hm1 m hm)).1
    omega
end Go.Proofs.YtfconbblnmbnpahGreatDoor
