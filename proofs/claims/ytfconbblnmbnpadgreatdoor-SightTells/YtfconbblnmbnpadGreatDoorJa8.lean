/-
  KFrame, KRefTk, KTwo: joined into one text.
-/
import Derived.Test.YtfconbblnmbnpadGreatDoorKRefTick
import Derived.Test.YtfconbblnmbnpadGreatDoorKRefNew
import Derived.Deep.CutRange
import Derived.Deep.RegionWith
import Derived.BigQuiet
import Derived.RangeFuncNested
import Derived.Test.YtfconbblnmbnpadGreatDoorJa1
namespace Go.Proofs.YtfconbblnmbnpadGreatDoor
open Go.RowKit

/-- The blocks of the document's kernel. -/
def KF (a : KW) : List Nat := a.kb :: a.rb :: a.lr :: (a.bs ++ a.us.filterMap Value.ownBlock)
theorem KF.m {a : KW} : ∀ g ∈ a.m, g ∈ KF a := fun g hg => by
  unfold KW.m at hg
  unfold KF
  simp only [List.mem_cons, List.mem_append] at hg ⊢
  rcases hg with h | h | h
  · exact Or.inl h
  · exact Or.inr (Or.inl h)
  · exact Or.inr (Or.inr (Or.inr (Or.inl h)))
theorem KF.us {a : KW} {us : List Value} {n : Nat} (h : ∀ u ∈ us, ∀ g, u.ownBlock = some g → OldU a g ∨ n ≤ g) : ∀ g ∈ KF { a with us := us }, g ∈ KF a ∨ n ≤ g := fun g hg => by
  unfold KF at hg ⊢
  simp only [List.mem_cons, List.mem_append, List.mem_filterMap] at hg ⊢
  rcases hg with h1 | h1 | h1 | h1 | ⟨u, h1, h2⟩
  · exact Or.inl (Or.inl h1)
  · exact Or.inl (Or.inr (Or.inl h1))
  · exact Or.inl (Or.inr (Or.inr (Or.inl h1)))
  · exact Or.inl (Or.inr (Or.inr (Or.inr (Or.inl h1))))
  · rcases h u h1 g h2 with ⟨u0, h3, h4⟩ | h3
    · exact Or.inl (Or.inr (Or.inr (Or.inr (Or.inr ⟨u0, h3, h4⟩))))
    · exact Or.inr h3
theorem RK.flt {w : World} {base : Nat} {p : PD} {vc vs vw : Value} {k : KD} {a : KW} (h : RK w base p vc vs vw k a) : ∀ g ∈ KF a, g < w.heap.size := fun g hg => by
  have hle := h.le
  unfold KF at hg
  simp only [List.mem_cons, List.mem_append, List.mem_filterMap] at hg
  rcases hg with h1 | h1 | h1 | h1 | ⟨u, h1, h2⟩
  · have := h.lt.1; omega
  · have := h.lt.2.1; omega
  · have := h.lt.2.2.1; omega
  · have := h.lt.2.2.2 g h1; omega
  · exact (h.rows u h1 g h2).2
/-- What is written elsewhere leaves it as it is. -/
theorem RK.frame {w w' : World} {base : Nat} {p : PD} {vc vs vw : Value} {k : KD} {a : KW} (h : RK w base p vc vs vw k a) {M : List Nat} (ht : KTouch M w w') (hM : ∀ m ∈ M, m ∉ KF a) : RK w' base p vc vs vw k a := by
  have hin : ∀ g, g ∈ KF a → w'.heap[g]? = w.heap[g]? := fun g hg => ht.block g (h.flt g hg) (fun hm => hM g hm hg)
  have m1 : a.kb ∈ KF a := by simp [KF]
  have m2 : a.rb ∈ KF a := by simp [KF]
  have m3 : a.lr ∈ KF a := by simp [KF]
  have m4 : ∀ b ∈ a.bs, b ∈ KF a := fun b hb => by simp [KF, hb]
  have m5 : ∀ u ∈ a.us, ∀ g, u.ownBlock = some g → g ∈ KF a := fun u hu g hg => by
    unfold KF
    simp only [List.mem_cons, List.mem_append, List.mem_filterMap]
    exact Or.inr (Or.inr (Or.inr (Or.inr ⟨u, hu, hg⟩)))
  have hc := fun o => World.cell?_of_block (w := w) (w' := w') (a := ⟨a.kb, o, none⟩) (hin _ m1)
  have hf := fun o => World.frozen?_of_block (w := w) (w' := w') (a := ⟨a.kb, o, none⟩) (hin _ m1)
  have hrf := fun o => World.frozen?_of_block (w := w) (w' := w') (a := ⟨a.rb, o, none⟩) (hin _ m2)
  have hlr := fun o => World.cell?_of_block (w := w) (w' := w') (a := ⟨a.lr, o, none⟩) (hin _ m3)
  refine ⟨(hc 0).trans h.c0, (hc 1).trans h.c1, (hc 2).trans h.c2, (hc 3).trans h.c3, (hc 4).trans h.c4, (hc 5).trans h.c5, (hc 6).trans h.c6, (hf 6).trans h.f6, fun i s hs => (h.rooms i s hs).block (hin _ m2), fun o => (hrf o).trans (h.rf o), h.lv, fun i b hi => (hlr i).trans (h.ptr i b hi), h.bl, h.ul, fun i l b u h1 h2 h3 => (h.line i l b u h1 h2 h3).touch ht (fun hm => ?_) (fun g hg hm => ?_), h.ge, h.lt, Nat.le_trans h.le ht.size, h.apart, h.two, h.ft.block (fun b hb => hin b (m4 b hb))⟩
  · exact hM b hm (m4 b (List.mem_of_getElem? h2))
  · exact hM g hm (m5 u (List.mem_of_getElem? h3) g hg)
theorem RK.lower {w : World} {base base' : Nat} {p : PD} {vc vs vw : Value} {k : KD} {a : KW} (h : RK w base p vc vs vw k a) (hb : base' ≤ base) : RK w base' p vc vs vw k a :=
  ⟨h.c0, h.c1, h.c2, h.c3, h.c4, h.c5, h.c6, h.f6, h.rooms, h.rf, h.lv, h.ptr, h.bl, h.ul, h.line, ⟨Nat.le_trans hb h.ge.1, Nat.le_trans hb h.ge.2.1, fun b hm => Nat.le_trans hb (h.ge.2.2 b hm)⟩, h.lt, h.le, h.apart, h.two, h.ft⟩
end Go.Proofs.YtfconbblnmbnpadGreatDoor
namespace Go.Proofs.YtfconbblnmbnpadGreatDoor
open Go.RowKit

/-- Tick: by the plan's own spans. -/
theorem reftick_any (p : PD) (vc vw : Value) (sa : Option Addr) (sc : Nat) (k : KD) (a : KW) (base : Nat) (w : World) (hp : plchk p = 0) (hk : KOk p k) (ht : k.time < 100000000) (h : RK w base p vc (.slice sa p.spans.length sc) vw k a) (w0 : World) (hw00 : base = w0.heap.size) (hb0 : Below w0.heap.size w0 w) (hP : Pln w0 vc (.slice sa p.spans.length sc) vw p) :
    Calls Tryz.prog 12 #[.pointer (some ⟨a.kb, 0, none⟩)] w fun e w' => e = .returned (.agg #[.int .i64 (tickK p p.spans k).2.1, .int .i64 (tickK p p.spans k).2.2.1, .int .i64 (tickK p p.spans k).2.2.2.1, .int .i64 (tickK p p.spans k).2.2.2.2]) ∧ (∃ us, RK w' base p vc (.slice sa p.spans.length sc) vw (tickK p p.spans k).1 { a with us := us } ∧ ∀ u ∈ us, ∀ g, u.ownBlock = some g → OldU a g ∨ w.heap.size ≤ g) ∧ KTouch a.m w w' := by
  have hB : Below w.heap.size w (w.alloc (.cells #[.int .i64 0, .int .i64 0, .int .i64 0, .int .i64 0] 42)) := (Below.refl _ w).alloc (Nat.le_refl _) _
  have h1 := h.all hB
  have c2 := h1.c2
  have hq := tickby_any p vc (.slice sa p.spans.length sc) vw p.spans sa sc k a base _ hp hk ht h1 w0 hw00 (hb0.trans (hB.mono hb0.size)) hP.code hP.spans (fchk_zero (plchk_zero hp).2.2.1).2.2.1 (fun t => who_room hp t)
  obtain ⟨t1, ht1⟩ : ∃ x, (tickK p p.spans k).2.1 = x := ⟨_, rfl⟩
  obtain ⟨t2, ht2⟩ : ∃ x, (tickK p p.spans k).2.2.1 = x := ⟨_, rfl⟩
  obtain ⟨t3, ht3⟩ : ∃ x, (tickK p p.spans k).2.2.2.1 = x := ⟨_, rfl⟩
  obtain ⟨t4, ht4⟩ : ∃ x, (tickK p p.spans k).2.2.2.2 = x := ⟨_, rfl⟩
  obtain ⟨k', hk'⟩ : ∃ x, (tickK p p.spans k).1 = x := ⟨_, rfl⟩
  rw [ht1, ht2, ht3, ht4, hk'] at hq
  rw [ht1, ht2, ht3, ht4, hk']
  clear ht1 ht2 ht3 ht4 hk' hP hp hk
  have hmlt : w.heap.size ∉ a.m := fun hm => by have := h.mlt _ hm; have := h.le; omega
  have hle := h.le
  have hold : ∀ g, OldU a g → g < w.heap.size := fun g ⟨u, h2, h3⟩ => (h.rows u h2 g h3).2
  have hbox : (w.alloc (.cells #[.int .i64 0, .int .i64 0, .int .i64 0, .int .i64 0] 42)).heap[w.heap.size]? = some (.cells #[.int .i64 0, .int .i64 0, .int .i64 0, .int .i64 0] 42 (0, 0)) := World.alloc_heap_new w _
  go_enter Tryz.func12, Tryz.ntmps12
  have hst : ∀ w1 : World, KTouch a.m (w.alloc (.cells #[.int .i64 0, .int .i64 0, .int .i64 0, .int .i64 0] 42)) w1 → EvB w1 w.heap.size 0 0 0 0 := fun w1 hk => (hk.block _ (by simp) hmlt).trans hbox
  go_wp2_with (go_at_call 36; refine hq.mono ?_; rintro e w1 ⟨rfl, ⟨us, hr, hu⟩, tk⟩; clear hq; have hev := hst w1 tk; obtain ⟨v0, v1, v2, v3⟩ := hev.cs; obtain ⟨x0, x1, x2, x3⟩ := hev.fs)
  have tkE : KTouch [w.heap.size] w1 ((((w1.setCell ⟨w.heap.size, 0, none⟩ (.int .i64 t1)).setCell ⟨w.heap.size, 1, none⟩ (.int .i64 t2)).setCell ⟨w.heap.size, 2, none⟩ (.int .i64 t3)).setCell ⟨w.heap.size, 3, none⟩ (.int .i64 t4)) := (((KTouch.set w1 (by simp) 0 _).trans (KTouch.set _ (by simp) 1 _)).trans (KTouch.set _ (by simp) 2 _)).trans (KTouch.set _ (by simp) 3 _)
  have hu2 : ∀ u ∈ us, ∀ g, u.ownBlock = some g → OldU a g ∨ w.heap.size + 1 ≤ g := fun u h2 g hg => by
    have := hu u h2 g hg
    rw [World.size_alloc] at this
    exact this
  refine bodyPost_ret (v := .agg #[.int .i64 t1, .int .i64 t2, .int .i64 t3, .int .i64 t4]) ?_ rfl ⟨rfl, ⟨us, hr.touch tkE (fun m hm => ?_), fun u h2 g hg => (hu2 u h2 g hg).imp id (fun h => by omega)⟩, ((KTouch.of hB).trans tk).more tkE (by simp)⟩
  · simp [results, Tryz.results12, go_sem, v0, v1, v2, v3]
  · rw [List.mem_singleton] at hm
    subst hm
    refine ⟨hle, fun u h2 hg => ?_⟩
    rcases hu2 u h2 _ hg with h3 | h3
    · have := hold _ h3
      omega
    · omega
end Go.Proofs.YtfconbblnmbnpadGreatDoor
namespace Go.Proofs.YtfconbblnmbnpadGreatDoor
open Go.RowKit

/-- Both are the same kernel, and neither has what the other one has. -/
structure Two {G : World → Prop} (C : KerC G) (w0 wr : World) (p : PD) (vc vs vw : Value) (k : KD) (kb : Nat) (F : List Nat) (a : KW) : Prop where
  K : C.K w0 wr p vc vs vw k kb F
  R : RK wr w0.heap.size p vc vs vw k a
  ap : ∀ g ∈ F, g ∉ KF a
  ok : KOk p k
  pln : Pln w0 vc vs vw p
theorem Two.flt {G : World → Prop} {C : KerC G} {w0 wr : World} {p : PD} {vc vs vw : Value} {k : KD} {kb : Nat} {F : List Nat} {a : KW} (h : Two C w0 wr p vc vs vw k kb F a) : ∀ g ∈ F ++ KF a, g < wr.heap.size := fun g hg => by
  rcases List.mem_append.1 hg with h1 | h1
  · exact (C.ge h.K g h1).2
  · exact h.R.flt g h1
/-- Nothing of them is touched. -/
theorem Two.all {G : World → Prop} {C : KerC G} {w0 wr w' : World} {p : PD} {vc vs vw : Value} {k : KD} {kb : Nat} {F : List Nat} {a : KW} (h : Two C w0 wr p vc vs vw k kb F a) (hb : Below wr.heap.size wr w') : Two C w0 w' p vc vs vw k kb F a :=
  ⟨C.frame h.K (KTouch.of (M := []) hb) (by simp), h.R.all hb, h.ap, h.ok, h.pln⟩
/-- A block of the caller's own is written. -/
theorem Two.set {G : World → Prop} {C : KerC G} {w0 wr w' : World} {p : PD} {vc vs vw : Value} {k : KD} {kb : Nat} {F : List Nat} {a : KW} (h : Two C w0 wr p vc vs vw k kb F a) {b : Nat} (ht : KTouch [b] wr w') (hb : b ∉ F ++ KF a) (hw : w0.heap.size ≤ b) : Two C w0 w' p vc vs vw k kb F a := by
  have h1 : b ∉ F := fun e => hb (List.mem_append.2 (Or.inl e))
  have h2 : b ∉ KF a := fun e => hb (List.mem_append.2 (Or.inr e))
  refine ⟨C.frame h.K ht (fun m hm => ?_), h.R.frame ht (fun m hm => ?_), h.ap, h.ok, h.pln⟩
  · rw [List.mem_singleton] at hm
    subst hm
    exact ⟨h1, hw⟩
  · rw [List.mem_singleton] at hm
    subst hm
    exact h2
/-- What came of a call on both. -/
structure Went {G : World → Prop} (C : KerC G) (w0 W w' : World) (p : PD) (vc vs vw : Value) (k' : KD) (kb : Nat) (F F' : List Nat) (a a' : KW) : Prop where
  two : Two C w0 w' p vc vs vw k' kb F' a'
  touch : KTouch (F ++ a.m) W w'
  new : ∀ g ∈ F' ++ KF a', g ∈ F ++ KF a ∨ W.heap.size ≤ g
  kb : a'.kb = a.kb
theorem own_m {F : List Nat} {a : KW} {b : Nat} (h : b ∈ F ++ a.m) : b ∈ F ++ KF a := by
  rcases List.mem_append.1 h with h | h
  · exact List.mem_append.2 (Or.inl h)
  · exact List.mem_append.2 (Or.inr (KF.m b h))
/-- What is touched lies behind what was there when they were made. -/
theorem Two.mge {G : World → Prop} {C : KerC G} {w0 wr : World} {p : PD} {vc vs vw : Value} {k : KD} {kb : Nat} {F : List Nat} {a : KW} (h : Two C w0 wr p vc vs vw k kb F a) : ∀ g ∈ F ++ a.m, w0.heap.size ≤ g := fun g hg => by
  rcases List.mem_append.1 hg with h1 | h1
  · exact (C.ge h.K g h1).1
  · exact h.R.mge g h1
/-- A block of the caller's own stays, and stays the caller's own. -/
theorem Went.keep {G : World → Prop} {C : KerC G} {w0 W w' : World} {p : PD} {vc vs vw : Value} {k' : KD} {kb : Nat} {F F' : List Nat} {a a' : KW} (h : Went C w0 W w' p vc vs vw k' kb F F' a a') {b : Nat} (hb : b < W.heap.size) (hn : b ∉ F ++ KF a) : w'.heap[b]? = W.heap[b]? ∧ b ∉ F' ++ KF a' := by
  refine ⟨h.touch.block b hb (fun hm => hn (own_m hm)), fun hm => ?_⟩
  rcases h.new b hm with h1 | h1
  · exact hn h1
  · omega
/-- A tick of both. -/
theorem two_tick {G : World → Prop} {C : KerC G} {w0 W : World} {p : PD} {vc vs vw : Value} {k : KD} {kb : Nat} {F : List Nat} {a : KW} (hG : G w0) (hp : plchk p = 0) (ht : k.time < 100000000) (h : Two C w0 W p vc vs vw k kb F a) :
    Calls Tryz.prog 11 #[.pointer (some ⟨kb, 0, none⟩)] W fun e w2 => e = .returned (evA (tickK p p.spans k).2) ∧
      Calls Tryz.prog 12 #[.pointer (some ⟨a.kb, 0, none⟩)] w2 fun e w' => e = .returned (evA (tickK p p.spans k).2) ∧ ∃ F' a', Went C w0 W w' p vc vs vw (tickK p p.spans k).1 kb F F' a a' := by
  refine (C.tick hG h.K hp h.ok ht).mono ?_
  rintro e w2 ⟨rfl, F', hK', tk, hF'⟩
  refine ⟨rfl, ?_⟩
  have hR2 : RK w2 w0.heap.size p vc vs vw k a := h.R.frame tk (fun m hm => h.ap m hm)
  have hB2 : Below w0.heap.size w0 w2 := C.since hK'
  obtain ⟨sa, sc, rfl⟩ := h.pln.spans.form
  refine (reftick_any p vc vw sa sc k a w0.heap.size w2 hp h.ok ht hR2 w0 rfl hB2 h.pln).mono ?_
  rintro e w' ⟨rfl, ⟨us, hR', hus⟩, tkr⟩
  have hmge := h.R.mge
  have hFlt : ∀ g ∈ F', g ∉ KF a := fun g hg hm => by
    rcases hF' g hg with h1 | h1
    · exact h.ap g h1 hm
    · have := h.R.flt g hm
      omega
  have hnew := KF.us hus
  refine ⟨rfl, F', { a with us := us }, ⟨C.frame hK' tkr (fun m hm => ⟨fun hmf => hFlt m hmf (KF.m m hm), hmge m hm⟩), hR', fun g hg hm => ?_, tick_ok hp h.ok, h.pln⟩, ?_, fun g hg => ?_, rfl⟩
  · rcases hnew g hm with h1 | h1
    · exact hFlt g hg h1
    · have := (C.ge hK' g hg).2
      omega
  · exact (tk.mono (fun m hm => List.mem_append.2 (Or.inl hm))).trans (tkr.mono (fun m hm => List.mem_append.2 (Or.inr hm)))
  · have hs := tk.size
    rcases List.mem_append.1 hg with h1 | h1
    · rcases hF' g h1 with h2 | h2
      · exact Or.inl (List.mem_append.2 (Or.inl h2))
      · exact Or.inr h2
    · rcases hnew g h1 with h2 | h2
      · exact Or.inl (List.mem_append.2 (Or.inr h2))
      · exact Or.inr (by omega)
/-- Both are made. -/
theorem two_new {G : World → Prop} {C : KerC G} {w0 w2 W w3 : World} {p : PD} {vc vs vw : Value} {kb : Nat} {F : List Nat} {a : KW} (hp : plchk p = 0) (hP : Pln w0 vc vs vw p) (hK : C.K w0 w2 p vc vs vw (newK p) kb F) (hb : Below w2.heap.size w2 W) (hR : RK w3 W.heap.size p vc vs vw (newK p) a) (hlr : W.heap.size ≤ a.lr) (hb3 : Below W.heap.size W w3) : Two C w0 w3 p vc vs vw (newK p) kb F a := by
  have hs := (C.since hK).size
  have hs2 := hb.size
  refine ⟨C.frame hK (KTouch.of (M := []) (hb.trans (hb3.mono hs2))) (by simp), hR.lower (by omega), fun g hg hm => ?_, new_ok hp, hP⟩
  have hlt := (C.ge hK g hg).2
  unfold KF at hm
  simp only [List.mem_cons, List.mem_append, List.mem_filterMap] at hm
  rcases hm with h1 | h1 | h1 | h1 | ⟨u, h1, h2⟩
  · have := hR.ge.1; omega
  · have := hR.ge.2.1; omega
  · omega
  · have := hR.ge.2.2 g h1; omega
  · have := (hR.rows u h1 g h2).1
    have := hR.lt.1
    have := hR.ge.1
    omega
end Go.Proofs.YtfconbblnmbnpadGreatDoor
