/-
  KFrame, KRefTk, KTwo, KPlays0, KPlays: joined into one text.
-/
import Derived.Test.YtajfgmlockjmhadGreatDoorKRefTick
import Derived.Test.YtajfgmlockjmhadGreatDoorKRefNew
import Derived.Deep.CutRange
import Derived.Deep.RegionWith
import Derived.BigQuiet
import Derived.RangeFuncNested
import Derived.Test.YtajfgmlockjmhadGreatDoorJa3
import Derived.Test.YtajfgmlockjmhadGreatDoorJa6
import Derived.Test.YtajfgmlockjmhadGreatDoorJa1
import Derived.Test.YtajfgmlockjmhadGreatDoorJa2
import Derived.Test.YtajfgmlockjmhadGreatDoorJa4
import Derived.Deep.RegionHeld3
namespace Go.Proofs.YtajfgmlockjmhadGreatDoor
open Go.RowKit

/-- The blocks of the document's kernel. -/
def KF (a : KW) : List Nat := a.kb :: a.rb :: a.lr :: (a.bs ++ a.us.filterMap Value.ownBlock)
theorem KF.m {a : KW} : ∀ g ∈ a.m, g ∈ KF a := fun g hg => by
  unfold KW.m at hg
  unfold KF
  simp only [List.mem_cons, List.mem_append] at hg ⊢
  rcases hg with h | h | h
  · exact Or.inl h
  · exact Or.inr (Or.inl h)
  · exact Or.inr (Or.inr (Or.inr (Or.inl h)))
theorem KF.us {a : KW} {us : List Value} {n : Nat} (h : ∀ u ∈ us, ∀ g, u.ownBlock = some g → OldU a g ∨ n ≤ g) : ∀ g ∈ KF { a with us := us }, g ∈ KF a ∨ n ≤ g := fun g hg => by
  unfold KF at hg ⊢
  simp only [List.mem_cons, List.mem_append, List.mem_filterMap] at hg ⊢
  rcases hg with h1 | h1 | h1 | h1 | ⟨u, h1, h2⟩
  · exact Or.inl (Or.inl h1)
  · exact Or.inl (Or.inr (Or.inl h1))
  · exact Or.inl (Or.inr (Or.inr (Or.inl h1)))
  · exact Or.inl (Or.inr (Or.inr (Or.inr (Or.inl h1))))
  · rcases h u h1 g h2 with ⟨u0, h3, h4⟩ | h3
    · exact Or.inl (Or.inr (Or.inr (Or.inr (Or.inr ⟨u0, h3, h4⟩))))
    · exact Or.inr h3
theorem RK.flt {w : World} {base : Nat} {p : PD} {vc vs vw : Value} {k : KD} {a : KW} (h : RK w base p vc vs vw k a) : ∀ g ∈ KF a, g < w.heap.size := fun g hg => by
  have hle := h.le
  unfold KF at hg
  simp only [List.mem_cons, List.mem_append, List.mem_filterMap] at hg
  rcases hg with h1 | h1 | h1 | h1 | ⟨u, h1, h2⟩
  · have := h.lt.1; omega
  · have := h.lt.2.1; omega
  · have := h.lt.2.2.1; omega
  · have := h.lt.2.2.2 g h1; omega
  · exact (h.rows u h1 g h2).2
/-- What is written elsewhere leaves it as it is. -/
theorem RK.frame {w w' : World} {base : Nat} {p : PD} {vc vs vw : Value} {k : KD} {a : KW} (h : RK w base p vc vs vw k a) {M : List Nat} (ht : KTouch M w w') (hM : ∀ m ∈ M, m ∉ KF a) : RK w' base p vc vs vw k a := by
  have hin : ∀ g, g ∈ KF a → w'.heap[g]? = w.heap[g]? := fun g hg => ht.block g (h.flt g hg) (fun hm => hM g hm hg)
  have m1 : a.kb ∈ KF a := by simp [KF]
  have m2 : a.rb ∈ KF a := by simp [KF]
  have m3 : a.lr ∈ KF a := by simp [KF]
  have m4 : ∀ b ∈ a.bs, b ∈ KF a := fun b hb => by simp [KF, hb]
  have m5 : ∀ u ∈ a.us, ∀ g, u.ownBlock = some g → g ∈ KF a := fun u hu g hg => by
    unfold KF
    simp only [List.mem_cons, List.mem_append, List.mem_filterMap]
    exact Or.inr (Or.inr (Or.inr (Or.inr ⟨u, hu, hg⟩)))
  have hc := fun o => World.cell?_of_block (w := w) (w' := w') (a := ⟨a.kb, o, none⟩) (hin _ m1)
  have hf := fun o => World.frozen?_of_block (w := w) (w' := w') (a := ⟨a.kb, o, none⟩) (hin _ m1)
  have hrf := fun o => World.frozen?_of_block (w := w) (w' := w') (a := ⟨a.rb, o, none⟩) (hin _ m2)
  have hlr := fun o => World.cell?_of_block (w := w) (w' := w') (a := ⟨a.lr, o, none⟩) (hin _ m3)
  refine ⟨(hc 0).trans h.c0, (hc 1).trans h.c1, (hc 2).trans h.c2, (hc 3).trans h.c3, (hc 4).trans h.c4, (hc 5).trans h.c5, (hc 6).trans h.c6, (hf 6).trans h.f6, fun i s hs => (h.rooms i s hs).block (hin _ m2), fun o => (hrf o).trans (h.rf o), h.lv, fun i b hi => (hlr i).trans (h.ptr i b hi), h.bl, h.ul, fun i l b u h1 h2 h3 => (h.line i l b u h1 h2 h3).touch ht (fun hm => ?_) (fun g hg hm => ?_), h.ge, h.lt, Nat.le_trans h.le ht.size, h.apart, h.two, h.ft.block (fun b hb => hin b (m4 b hb))⟩
  · exact hM b hm (m4 b (List.mem_of_getElem? h2))
  · exact hM g hm (m5 u (List.mem_of_getElem? h3) g hg)
theorem RK.lower {w : World} {base base' : Nat} {p : PD} {vc vs vw : Value} {k : KD} {a : KW} (h : RK w base p vc vs vw k a) (hb : base' ≤ base) : RK w base' p vc vs vw k a :=
  ⟨h.c0, h.c1, h.c2, h.c3, h.c4, h.c5, h.c6, h.f6, h.rooms, h.rf, h.lv, h.ptr, h.bl, h.ul, h.line, ⟨Nat.le_trans hb h.ge.1, Nat.le_trans hb h.ge.2.1, fun b hm => Nat.le_trans hb (h.ge.2.2 b hm)⟩, h.lt, h.le, h.apart, h.two, h.ft⟩
end Go.Proofs.YtajfgmlockjmhadGreatDoor
namespace Go.Proofs.YtajfgmlockjmhadGreatDoor
open Go.RowKit

/-- Tick: by the plan's own spans. -/
theorem reftick_any (p : PD) (vc vw : Value) (sa : Option Addr) (sc : Nat) (k : KD) (a : KW) (base : Nat) (w : World) (hp : plchk p = 0) (hk : KOk p k) (ht : k.time < 100000000) (h : RK w base p vc (.slice sa p.spans.length sc) vw k a) (w0 : World) (hw00 : base = w0.heap.size) (hb0 : Below w0.heap.size w0 w) (hP : Pln w0 vc (.slice sa p.spans.length sc) vw p) :
    Calls Tryz.prog 12 #[.pointer (some ⟨a.kb, 0, none⟩)] w fun e w' => e = .returned (.agg #[.int .i64 (tickK p p.spans k).2.1, .int .i64 (tickK p p.spans k).2.2.1, .int .i64 (tickK p p.spans k).2.2.2.1, .int .i64 (tickK p p.spans k).2.2.2.2]) ∧ (∃ us, RK w' base p vc (.slice sa p.spans.length sc) vw (tickK p p.spans k).1 { a with us := us } ∧ ∀ u ∈ us, ∀ g, u.ownBlock = some g → OldU a g ∨ w.heap.size ≤ g) ∧ KTouch a.m w w' := by
  have hB : Below w.heap.size w (w.alloc (.cells #[.int .i64 0, .int .i64 0, .int .i64 0, .int .i64 0] 42)) := (Below.refl _ w).alloc (Nat.le_refl _) _
  have h1 := h.all hB
  have c2 := h1.c2
  have hq := tickby_any p vc (.slice sa p.spans.length sc) vw p.spans sa sc k a base _ hp hk ht h1 w0 hw00 (hb0.trans (hB.mono hb0.size)) hP.code hP.spans (fchk_zero (plchk_zero hp).2.2.1).2.2.1 (fun t => who_room hp t)
  obtain ⟨t1, ht1⟩ : ∃ x, (tickK p p.spans k).2.1 = x := ⟨_, rfl⟩
  obtain ⟨t2, ht2⟩ : ∃ x, (tickK p p.spans k).2.2.1 = x := ⟨_, rfl⟩
  obtain ⟨t3, ht3⟩ : ∃ x, (tickK p p.spans k).2.2.2.1 = x := ⟨_, rfl⟩
  obtain ⟨t4, ht4⟩ : ∃ x, (tickK p p.spans k).2.2.2.2 = x := ⟨_, rfl⟩
  obtain ⟨k', hk'⟩ : ∃ x, (tickK p p.spans k).1 = x := ⟨_, rfl⟩
  rw [ht1, ht2, ht3, ht4, hk'] at hq
  rw [ht1, ht2, ht3, ht4, hk']
  clear ht1 ht2 ht3 ht4 hk' hP hp hk
  have hmlt : w.heap.size ∉ a.m := fun hm => by have := h.mlt _ hm; have := h.le; omega
  have hle := h.le
  have hold : ∀ g, OldU a g → g < w.heap.size := fun g ⟨u, h2, h3⟩ => (h.rows u h2 g h3).2
  have hbox : (w.alloc (.cells #[.int .i64 0, .int .i64 0, .int .i64 0, .int .i64 0] 42)).heap[w.heap.size]? = some (.cells #[.int .i64 0, .int .i64 0, .int .i64 0, .int .i64 0] 42 (0, 0)) := World.alloc_heap_new w _
  go_enter Tryz.func12, Tryz.ntmps12
  have hst : ∀ w1 : World, KTouch a.m (w.alloc (.cells #[.int .i64 0, .int .i64 0, .int .i64 0, .int .i64 0] 42)) w1 → EvB w1 w.heap.size 0 0 0 0 := fun w1 hk => (hk.block _ (by simp) hmlt).trans hbox
  go_wp2_with (go_at_call 36; refine hq.mono ?_; rintro e w1 ⟨rfl, ⟨us, hr, hu⟩, tk⟩; clear hq; have hev := hst w1 tk; obtain ⟨v0, v1, v2, v3⟩ := hev.cs; obtain ⟨x0, x1, x2, x3⟩ := hev.fs)
  have tkE : KTouch [w.heap.size] w1 ((((w1.setCell ⟨w.heap.size, 0, none⟩ (.int .i64 t1)).setCell ⟨w.heap.size, 1, none⟩ (.int .i64 t2)).setCell ⟨w.heap.size, 2, none⟩ (.int .i64 t3)).setCell ⟨w.heap.size, 3, none⟩ (.int .i64 t4)) := (((KTouch.set w1 (by simp) 0 _).trans (KTouch.set _ (by simp) 1 _)).trans (KTouch.set _ (by simp) 2 _)).trans (KTouch.set _ (by simp) 3 _)
  have hu2 : ∀ u ∈ us, ∀ g, u.ownBlock = some g → OldU a g ∨ w.heap.size + 1 ≤ g := fun u h2 g hg => by
    have := hu u h2 g hg
    rw [World.size_alloc] at this
    exact this
  refine bodyPost_ret (v := .agg #[.int .i64 t1, .int .i64 t2, .int .i64 t3, .int .i64 t4]) ?_ rfl ⟨rfl, ⟨us, hr.touch tkE (fun m hm => ?_), fun u h2 g hg => (hu2 u h2 g hg).imp id (fun h => by omega)⟩, ((KTouch.of hB).trans tk).more tkE (by simp)⟩
  · simp [results, Tryz.results12, go_sem, v0, v1, v2, v3]
  · rw [List.mem_singleton] at hm
    subst hm
    refine ⟨hle, fun u h2 hg => ?_⟩
    rcases hu2 u h2 _ hg with h3 | h3
    · have := hold _ h3
      omega
    · omega
end Go.Proofs.YtajfgmlockjmhadGreatDoor
namespace Go.Proofs.YtajfgmlockjmhadGreatDoor
open Go.RowKit

/-- Both are the same kernel, and neither has what the other one has. -/
structure Two {G : World → Prop} (C : KerC G) (w0 wr : World) (p : PD) (vc vs vw : Value) (k : KD) (kb : Nat) (F : List Nat) (a : KW) : Prop where
  K : C.K w0 wr p vc vs vw k kb F
  R : RK wr w0.heap.size p vc vs vw k a
  ap : ∀ g ∈ F, g ∉ KF a
  ok : KOk p k
  pln : Pln w0 vc vs vw p
theorem Two.flt {G : World → Prop} {C : KerC G} {w0 wr : World} {p : PD} {vc vs vw : Value} {k : KD} {kb : Nat} {F : List Nat} {a : KW} (h : Two C w0 wr p vc vs vw k kb F a) : ∀ g ∈ F ++ KF a, g < wr.heap.size := fun g hg => by
  rcases List.mem_append.1 hg with h1 | h1
  · exact (C.ge h.K g h1).2
  · exact h.R.flt g h1
/-- Nothing of them is touched. -/
theorem Two.all {G : World → Prop} {C : KerC G} {w0 wr w' : World} {p : PD} {vc vs vw : Value} {k : KD} {kb : Nat} {F : List Nat} {a : KW} (h : Two C w0 wr p vc vs vw k kb F a) (hb : Below wr.heap.size wr w') : Two C w0 w' p vc vs vw k kb F a :=
  ⟨C.frame h.K (KTouch.of (M := []) hb) (by simp), h.R.all hb, h.ap, h.ok, h.pln⟩
/-- A block of the caller's own is written. -/
theorem Two.set {G : World → Prop} {C : KerC G} {w0 wr w' : World} {p : PD} {vc vs vw : Value} {k : KD} {kb : Nat} {F : List Nat} {a : KW} (h : Two C w0 wr p vc vs vw k kb F a) {b : Nat} (ht : KTouch [b] wr w') (hb : b ∉ F ++ KF a) (hw : w0.heap.size ≤ b) : Two C w0 w' p vc vs vw k kb F a := by
  have h1 : b ∉ F := fun e => hb (List.mem_append.2 (Or.inl e))
  have h2 : b ∉ KF a := fun e => hb (List.mem_append.2 (Or.inr e))
  refine ⟨C.frame h.K ht (fun m hm => ?_), h.R.frame ht (fun m hm => ?_), h.ap, h.ok, h.pln⟩
  · rw [List.mem_singleton] at hm
    subst hm
    exact ⟨h1, hw⟩
  · rw [List.mem_singleton] at hm
    subst hm
    exact h2
/-- What came of a call on both. -/
structure Went {G : World → Prop} (C : KerC G) (w0 W w' : World) (p : PD) (vc vs vw : Value) (k' : KD) (kb : Nat) (F F' : List Nat) (a a' : KW) : Prop where
  two : Two C w0 w' p vc vs vw k' kb F' a'
  touch : KTouch (F ++ a.m) W w'
  new : ∀ g ∈ F' ++ KF a', g ∈ F ++ KF a ∨ W.heap.size ≤ g
  kb : a'.kb = a.kb
theorem own_m {F : List Nat} {a : KW} {b : Nat} (h : b ∈ F ++ a.m) : b ∈ F ++ KF a := by
  rcases List.mem_append.1 h with h | h
  · exact List.mem_append.2 (Or.inl h)
  · exact List.mem_append.2 (Or.inr (KF.m b h))
/-- What is touched lies behind what was there when they were made. -/
theorem Two.mge {G : World → Prop} {C : KerC G} {w0 wr : World} {p : PD} {vc vs vw : Value} {k : KD} {kb : Nat} {F : List Nat} {a : KW} (h : Two C w0 wr p vc vs vw k kb F a) : ∀ g ∈ F ++ a.m, w0.heap.size ≤ g := fun g hg => by
  rcases List.mem_append.1 hg with h1 | h1
  · exact (C.ge h.K g h1).1
  · exact h.R.mge g h1
/-- A block of the caller's own stays, and stays the caller's own. -/
theorem Went.keep {G : World → Prop} {C : KerC G} {w0 W w' : World} {p : PD} {vc vs vw : Value} {k' : KD} {kb : Nat} {F F' : List Nat} {a a' : KW} (h : Went C w0 W w' p vc vs vw k' kb F F' a a') {b : Nat} (hb : b < W.heap.size) (hn : b ∉ F ++ KF a) : w'.heap[b]? = W.heap[b]? ∧ b ∉ F' ++ KF a' := by
  refine ⟨h.touch.block b hb (fun hm => hn (own_m hm)), fun hm => ?_⟩
  rcases h.new b hm with h1 | h1
  · exact hn h1
  · omega
/-- A tick of both. -/
theorem two_tick {G : World → Prop} {C : KerC G} {w0 W : World} {p : PD} {vc vs vw : Value} {k : KD} {kb : Nat} {F : List Nat} {a : KW} (hG : G w0) (hp : plchk p = 0) (ht : k.time < 100000000) (h : Two C w0 W p vc vs vw k kb F a) :
    Calls Tryz.prog 11 #[.pointer (some ⟨kb, 0, none⟩)] W fun e w2 => e = .returned (evA (tickK p p.spans k).2) ∧
      Calls Tryz.prog 12 #[.pointer (some ⟨a.kb, 0, none⟩)] w2 fun e w' => e = .returned (evA (tickK p p.spans k).2) ∧ ∃ F' a', Went C w0 W w' p vc vs vw (tickK p p.spans k).1 kb F F' a a' := by
  refine (C.tick hG h.K hp h.ok ht).mono ?_
  rintro e w2 ⟨rfl, F', hK', tk, hF'⟩
  refine ⟨rfl, ?_⟩
  have hR2 : RK w2 w0.heap.size p vc vs vw k a := h.R.frame tk (fun m hm => h.ap m hm)
  have hB2 : Below w0.heap.size w0 w2 := C.since hK'
  obtain ⟨sa, sc, rfl⟩ := h.pln.spans.form
  refine (reftick_any p vc vw sa sc k a w0.heap.size w2 hp h.ok ht hR2 w0 rfl hB2 h.pln).mono ?_
  rintro e w' ⟨rfl, ⟨us, hR', hus⟩, tkr⟩
  have hmge := h.R.mge
  have hFlt : ∀ g ∈ F', g ∉ KF a := fun g hg hm => by
    rcases hF' g hg with h1 | h1
    · exact h.ap g h1 hm
    · have := h.R.flt g hm
      omega
  have hnew := KF.us hus
  refine ⟨rfl, F', { a with us := us }, ⟨C.frame hK' tkr (fun m hm => ⟨fun hmf => hFlt m hmf (KF.m m hm), hmge m hm⟩), hR', fun g hg hm => ?_, tick_ok hp h.ok, h.pln⟩, ?_, fun g hg => ?_, rfl⟩
  · rcases hnew g hm with h1 | h1
    · exact hFlt g hg h1
    · have := (C.ge hK' g hg).2
      omega
  · exact (tk.mono (fun m hm => List.mem_append.2 (Or.inl hm))).trans (tkr.mono (fun m hm => List.mem_append.2 (Or.inr hm)))
  · have hs := tk.size
    rcases List.mem_append.1 hg with h1 | h1
    · rcases hF' g h1 with h2 | h2
      · exact Or.inl (List.mem_append.2 (Or.inl h2))
      · exact Or.inr h2
    · rcases hnew g h1 with h2 | h2
      · exact Or.inl (List.mem_append.2 (Or.inr h2))
      · exact Or.inr (by omega)
/-- Both are made. -/
theorem two_new {G : World → Prop} {C : KerC G} {w0 w2 W w3 : World} {p : PD} {vc vs vw : Value} {kb : Nat} {F : List Nat} {a : KW} (hp : plchk p = 0) (hP : Pln w0 vc vs vw p) (hK : C.K w0 w2 p vc vs vw (newK p) kb F) (hb : Below w2.heap.size w2 W) (hR : RK w3 W.heap.size p vc vs vw (newK p) a) (hlr : W.heap.size ≤ a.lr) (hb3 : Below W.heap.size W w3) : Two C w0 w3 p vc vs vw (newK p) kb F a := by
  have hs := (C.since hK).size
  have hs2 := hb.size
  refine ⟨C.frame hK (KTouch.of (M := []) (hb.trans (hb3.mono hs2))) (by simp), hR.lower (by omega), fun g hg hm => ?_, new_ok hp, hP⟩
  have hlt := (C.ge hK g hg).2
  unfold KF at hm
  simp only [List.mem_cons, List.mem_append, List.mem_filterMap] at hm
  rcases hm with h1 | h1 | h1 | h1 | ⟨u, h1, h2⟩
  · have := hR.ge.1; omega
  · have := hR.ge.2.1; omega
  · omega
  · have := hR.ge.2.2 g h1; omega
  · have := (hR.rows u h1 g h2).1
    have := hR.lt.1
    have := hR.ge.1
    omega
end Go.Proofs.YtajfgmlockjmhadGreatDoor
namespace Go.Proofs.YtajfgmlockjmhadGreatDoor
open Go.RowKit

/-- A poke of both, the document's first. -/
theorem two_poke {G : World → Prop} {C : KerC G} (CP : KerPoke C) {w0 W : World} {p : PD} {vc vs vw : Value} {k : KD} {kb : Nat} {F : List Nat} {a : KW} (hp : plchk p = 0) (r c n : Int) (h : Two C w0 W p vc vs vw k kb F a) :
    Calls Tryz.prog 9 #[.pointer (some ⟨a.kb, 0, none⟩), .int .i64 r, .int .i64 c, .int .i64 n] W fun e w2 => e = .returned (.int .i64 (pokeN k r c n)) ∧ KTouch (F ++ a.m) W w2 ∧
      Calls Tryz.prog 10 #[.pointer (some ⟨kb, 0, none⟩), .int .i64 r, .int .i64 c, .int .i64 n] w2 fun e w' => e = .returned (wErr (pokeN k r c n)) ∧ ∃ F', Went C w0 W w' p vc vs vw (pokeK k r c n) kb F F' a a := by
  refine (refpoke_any p vc vs vw k a w0.heap.size r c n W h.R).mono ?_
  rintro e w2 ⟨rfl, hR2, tkr⟩
  have hmge := h.R.mge
  have tkr' : KTouch (F ++ a.m) W w2 := tkr.mono (fun m hm => List.mem_append.2 (Or.inr hm))
  have hK2 := C.frame h.K tkr (fun m hm => ⟨fun hmf => h.ap m hmf (KF.m m hm), hmge m hm⟩)
  refine ⟨rfl, tkr', ?_⟩
  refine (CP r c n hK2 h.ok hp).mono ?_
  rintro e w' ⟨rfl, F', hK', tk, hF'⟩
  have hs := tkr.size
  have hFlt : ∀ g ∈ F', g ∉ KF a := fun g hg hm => by
    rcases hF' g hg with h1 | h1
    · exact h.ap g h1 hm
    · have := h.R.flt g hm
      omega
  refine ⟨rfl, F', ⟨hK', hR2.frame tk (fun m hm => h.ap m hm), hFlt, poke_ok h.ok r c n, h.pln⟩, tkr'.trans (tk.mono (fun m hm => List.mem_append.2 (Or.inl hm))), fun g hg => ?_, rfl⟩
  rcases List.mem_append.1 hg with h1 | h1
  · rcases hF' g h1 with h2 | h2
    · exact Or.inl (List.mem_append.2 (Or.inl h2))
    · exact Or.inr (by omega)
  · exact Or.inl (List.mem_append.2 (Or.inr h1))
end Go.Proofs.YtajfgmlockjmhadGreatDoor
namespace Go.Proofs.YtajfgmlockjmhadGreatDoor
open Go.RowKit

theorem pokeK_time (k : KD) (r c n : Int) : (pokeK k r c n).time = k.time := by unfold pokeK; split <;> rfl
/-- What is in a row of steps. -/
def got4 (l : List Int) (j : Nat) : Nat → Int := fun q => if q < j then l.getD q 0 else 0
theorem got4_next {l : List Int} {j : Nat} {x : Int} (hx : l[j]? = some x) (q : Nat) : (if q = j then x else got4 l j q) = got4 l (j + 1) q := by
  unfold got4
  by_cases h : q = j
  · subst h
    simp [List.getD, hx]
  · by_cases h2 : q < j
    · simp [h, h2, show q < j + 1 by omega]
    · simp [h, h2, show ¬ q < j + 1 by omega]
theorem got4_end {l : List Int} {j : Nat} (hj : ¬ j < min l.length 4) (q : Nat) (hq : q < 4) : got4 l j q = l.getD q 0 := by
  unfold got4
  by_cases h : q < j
  · simp [h]
  · have : l.length ≤ q := by omega
    simp [h, List.getD, List.getElem?_eq_none this]
set_option maxRecDepth 1000000 in
set_option maxHeartbeats 16000000 in
theorem kplays_of {G : World → Prop} (C : KerC G) (CT : KerTime C) (CW : KerWire C) (CP : KerPoke C) (hE : ∀ (e : Int) (W : World), G W → Calls Tryz.prog 7 #[wErr e, .int .i64 e] W fun r w' => r = .returned (.bool true) ∧ Below W.heap.size W w')
    (hR : ∀ (p : PD) (vc vs vw : Value) (W : World), Pln W vc vs vw p → Calls Tryz.prog 5 #[plV vc p.ticks vs vw] W fun e w' => e = .returned (.int .i64 (plchk p)) ∧ Below W.heap.size W w')
    (p : PD) (vc vs vw vt : Value) (ll : List (List Int)) (w : World) (hG : G w) (hP : Pln w vc vs vw p) (hT : Sts w vt ll) :
    Calls Tryz.prog 3 #[plV vc p.ticks vs vw, vt] w fun e w' => e = .returned (.bool true) ∧ Below w.heap.size w w' := by
  obtain ⟨ca, cc, rfl⟩ := hP.code.form
  obtain ⟨sa, sc, rfl⟩ := hP.spans.form
  obtain ⟨wa, wc', rfl⟩ := hP.wires.form
  obtain ⟨ta, tc, rfl⟩ := hT.form
  have hx0 := Bx.first w (.slice ca p.code.length cc) p.ticks (.slice sa p.spans.length sc) (.slice wa p.wires.length wc')
  have HP : Hid (Pln w (.slice ca p.code.length cc) (.slice sa p.spans.length sc) (.slice wa p.wires.length wc') p) := hP
  have HT : Hid (Sts w (.slice ta ll.length tc) ll) := hT
  have HG : Hid (∀ W, Below w.heap.size w W → G W) := fun W hb => C.all w W hG hb
  have HE : Hid (∀ (e : Int) (W : World), G W → Calls Tryz.prog 7 #[wErr e, .int .i64 e] W fun r w' => r = .returned (.bool true) ∧ Below W.heap.size W w') := hE
  have q1 := hR p _ _ _ _ (hP.all hx0.below)
  have k0 := hx0.c0
  have k1 := hx0.c1
  have k2 := hx0.c2
  have k3 := hx0.c3
  unfold plV at q1
  unfold plV
  clear hP hT hG hE hR
  by_cases hp : plchk p = 0
  case neg =>
    have HN : Hid (∀ W, Below w.heap.size w W → Calls Tryz.prog 6 #[.agg #[.slice ca p.code.length cc, .int .i64 p.ticks, .slice sa p.spans.length sc, .slice wa p.wires.length wc']] W fun e w' => ∃ x, e = .returned (.tuple #[.pointer x, .iface 95 (.int .i64 (plchk p))]) ∧ Below W.heap.size W w') := fun W hb => by
      have := C.no p _ _ _ W (HG.out W hb) (HP.out.all hb) hp
      rw [wErr_not hp] at this
      exact this
    have HE2 : Hid (∀ W, Below w.heap.size w W → Calls Tryz.prog 7 #[.iface 95 (.int .i64 (plchk p)), .int .i64 (plchk p)] W fun r w' => r = .returned (.bool true) ∧ Below W.heap.size W w') := fun W hb => by
      have := HE.out (plchk p) W (HG.out W hb)
      rw [wErr_not hp] at this
      exact this
    have hpb : (plchk p == 0) = false := by simpa using hp
    have hpn : (plchk p != 0) = true := by simpa using hp
    generalize plchk p = z at q1 HN HE2 hp hpb hpn
    go_enter Tryz.func3, Tryz.ntmps3
    go_wp2_with (first
      | (go_at_call 5; refine q1.mono ?_; rintro e w1 ⟨rfl, b1⟩; clear q1 k0 k1 k2 k3; have hx1 := hx0.step b1; have k0 := hx1.c0; have k1 := hx1.c1; have k2 := hx1.c2; have k3 := hx1.c3; have q2 := HN.out w1 hx1.below)
      | (go_at_call 6; refine q2.mono ?_; rintro e w2 ⟨xp, rfl, b2⟩; clear q2; have hx2 := hx1.step b2; have q3 := HE2.out w2 hx2.below)
      | (go_at_call 7; refine q3.mono ?_; rintro e w3 ⟨rfl, b3⟩; clear q3))
    go_ret
    exact ⟨rfl, hx2.below.trans (b3.mono hx2.below.size)⟩
  have HN : Hid (∀ W, Below w.heap.size w W → Calls Tryz.prog 6 #[.agg #[.slice ca p.code.length cc, .int .i64 p.ticks, .slice sa p.spans.length sc, .slice wa p.wires.length wc']] W fun e w' => ∃ kb F, e = .returned (.tuple #[.pointer (some ⟨kb, 0, none⟩), .nilIface]) ∧ C.K W w' p (.slice ca p.code.length cc) (.slice sa p.spans.length sc) (.slice wa p.wires.length wc') (newK p) kb F) := fun W hb => C.new p _ _ _ W (HG.out W hb) (HP.out.all hb) hp
  have HE2 : Hid (∀ W, Below w.heap.size w W → Calls Tryz.prog 7 #[.nilIface, .int .i64 0] W fun r w' => r = .returned (.bool true) ∧ Below W.heap.size W w') := fun W hb => HE.out 0 W (HG.out W hb)
  have HR : Hid (∀ W, Below w.heap.size w W → Calls Tryz.prog 8 #[.agg #[.slice ca p.code.length cc, .int .i64 p.ticks, .slice sa p.spans.length sc, .slice wa p.wires.length wc']] W fun e w' => ∃ a : KW, e = .returned (.pointer (some ⟨a.kb, 0, none⟩)) ∧ W.heap.size ≤ a.lr ∧ RK w' W.heap.size p (.slice ca p.code.length cc) (.slice sa p.spans.length sc) (.slice wa p.wires.length wc') (newK p) a ∧ Below W.heap.size W w') := fun W hb => newkernel_any p _ _ _ W hp (HP.out.all hb)
  rw [hp] at q1
  go_enter Tryz.func3, Tryz.ntmps3
  go_upto_region 7 with (first
    | (go_at_call 5; refine q1.mono ?_; rintro e w1 ⟨rfl, b1⟩; clear q1 k0 k1 k2 k3; have hx1 := hx0.step b1; have k0 := hx1.c0; have k1 := hx1.c1; have k2 := hx1.c2; have k3 := hx1.c3; have q2 := HN.out w1 hx1.below)
    | (go_at_call 6; refine q2.mono ?_; rintro e w2 ⟨kb, F, rfl, hK⟩; clear q2 k0 k1 k2 k3; have hx2 := hx1.step (C.since hK); have q3 := HE2.out w2 hx2.below)
    | (go_at_call 7; refine q3.mono ?_; rintro e w3 ⟨rfl, b3⟩; clear q3; have hx3 := hx2.step b3; have k0 := hx3.c0; have k1 := hx3.c1; have k2 := hx3.c2; have k3 := hx3.c3; have q4 := HR.out w3 hx3.below)
    | (go_at_call 8; refine q4.mono ?_; rintro e w4 ⟨a, rfl, hlr, hRk, b4⟩; clear q4 k0 k1 k2 k3; have hx4 := hx3.step b4))
  have hTw := two_new hp (HP.out.all hx1.below) hK b3 hRk hlr b4
  have HG1 : Hid (G w1) := HG.out w1 hx1.below
  have HB1 : Hid (Below w.heap.size w w1) := hx1.below
  have hs1 := hx1.size
  clear hK hRk hlr b1 b3 b4 hx0 hx1 hx2 hx3
  go_wp2
  go_loopw [10] (fun s10 wr => ∃ (i : Nat) (k : KD) (F : List Nat) (a' : KW), i ≤ 60 ∧ s10 = .int .i64 i ∧ k.time ≤ 5 * i ∧ a'.kb = a.kb ∧ Two C w1 wr p (.slice ca p.code.length cc) (.slice sa p.spans.length sc) (.slice wa p.wires.length wc') k kb F a' ∧ Bx w wr (.slice ca p.code.length cc) p.ticks (.slice sa p.spans.length sc) (.slice wa p.wires.length wc')) (fun s _ => 60 - (intOf s).toNat)
  case atStart => exact ⟨0, _, F, a, Nat.zero_le _, rfl, (by show (0 : Int) ≤ 5 * ((0 : Nat) : Int); omega), rfl, hTw, hx4⟩
  case round =>
  clear hTw hx4
  obtain ⟨i, k, F1, a1, hi, rfl, htm, hak, hTw, hx⟩ := hrel
  by_cases hil : i < ll.length
  case neg =>
    have hil' : decide ((i : Int) < (ll.length : Int)) = false := decide_eq_false (by omega)
    have hiln : decide (i < ll.length) = false := decide_eq_false hil
    clear hTw
    go_wp2
    go_ret
    exact ⟨rfl, hx.below⟩
  have hii : (i : Int) < (ll.length : Int) := by omega
  by_cases hi60 : i < 60
  case neg =>
    obtain rfl : i = 60 := by omega
    rw [show ((60 : Nat) : Int) = 60 from rfl] at hii
    clear hTw
    go_wp2
    go_ret
    exact ⟨rfl, hx.below⟩
  have hi6 : (i : Int) < 60 := by omega
  rename World => wA
  obtain ⟨tb, tf, ua, uc, l, rfl, htlt, _, ht0, hstp⟩ := HT.out.at hil
  have HTB : Hid (tb < w.heap.size) := htlt
  have HTC : Hid (∀ W, Below w.heap.size w W → W.cell? ⟨tb, tf + i, none⟩ = some (.slice ua l.length uc)) := fun W hb => (hb.cell (p := ⟨tb, _, none⟩) htlt).trans ht0
  have HSP : Hid (Stp w (.slice ua l.length uc) l) := hstp
  clear htlt ht0 hstp
  have hvb : wA.heap.size ∉ F1 ++ KF a1 := fun hm => by have := hTw.flt _ hm; omega
  go_upto_region 11 with fail
  have bAB : Below wA.heap.size wA (wA.alloc (.cells #[.int .i64 0, .int .i64 0, .int .i64 0, .int .i64 0] 37)) := (Below.refl _ _).alloc (Nat.le_refl _) _
  have hv0 : V4 (wA.alloc (.cells #[.int .i64 0, .int .i64 0, .int .i64 0, .int .i64 0] 37)) wA.heap.size (got4 l 0) := World.alloc_heap_new wA _
  have hwA : w.heap.size + 1 ≤ wA.heap.size := hx.size
  have hw1A : w1.heap.size ≤ wA.heap.size := (C.since hTw.K).size
  replace hTw := hTw.all bAB
  replace hx := hx.step bAB
  clear bAB
  generalize (wA.alloc (.cells #[.int .i64 0, .int .i64 0, .int .i64 0, .int .i64 0] 37)) = wB at hv0 hTw hx ⊢
  generalize wA.heap.size = vb at hv0 hvb hwA hw1A ⊢
  go_wp2
  go_loopw [12] (fun s wr => ∃ j : Nat, j ≤ 4 ∧ s = .int .i64 j ∧ V4 wr vb (got4 l j) ∧ KTouch [vb] wB wr) (fun s _ => 4 - (intOf s).toNat)
  case atStart => exact ⟨0, Nat.zero_le _, rfl, hv0, KTouch.refl _ _⟩
  case round =>
  clear hv0
  obtain ⟨j, hj, rfl, hv, tk⟩ := hrel
  have hbw : Below w.heap.size w wr := hx.below.trans (tk.below (by simp; omega) hx.below.size)
  have hcl := HTC.out wr hbw
  go_upto_region 12 with fail
  go_cut [60] from 50 to 59 (fun s60 wx => s60 = .bool (decide (j < min l.length 4)) ∧ wx = wr)
  case first =>
    by_cases h1 : j < l.length
    · have h1' : (j : Int) < (l.length : Int) := by omega
      by_cases h2 : j < 4
      · have h2' : (j : Int) < 4 := by omega
        have HX : Hid (decide (j < min l.length 4) = true) := decide_eq_true (by omega)
        go_wp2_with fail
        go_meet
        case rel => exact ⟨by rw [HX.out], rfl⟩
      · obtain rfl : j = 4 := by omega
        rw [show ((4 : Nat) : Int) = 4 from rfl] at h1'
        have HX : Hid (decide (4 < min l.length 4) = false) := decide_eq_false (by omega)
        go_wp2_with fail
        go_meet
        case rel => exact ⟨by rw [HX.out], rfl⟩
    · have h1' : decide ((j : Int) < (l.length : Int)) = false := decide_eq_false (by omega)
      have h1n : decide (j < l.length) = false := decide_eq_false h1
      have HX : Hid (decide (j < min l.length 4) = false) := decide_eq_false (by omega)
      go_wp2_with fail
      go_meet
      case rel => exact ⟨by rw [HX.out], rfl⟩
  case rest =>
  obtain ⟨rfl, hwc⟩ := hcut
  rw [hwc]
  clear hwc wc
  by_cases hjm : j < min l.length 4
  case pos =>
    have hjl : j < l.length := by omega
    have hj4 : j < 4 := by omega
    have hji : (j : Int) < (l.length : Int) := by omega
    have hj4i : (j : Int) < 4 := by omega
    have hd : decide (j < min l.length 4) = true := decide_eq_true hjm
    rw [hd]
    obtain ⟨ub, uo, x, rfl, hxc, hlx⟩ := HSP.out.at hbw hjl
    have HLX : Hid (l[j]? = some x) := hlx
    have hcv := hv.at hj4
    have hfv := hv.fz j
    have HV : Hid (V4 wr vb (got4 l j)) := hv
    clear hlx hv hd hbw
    go_wp2
    go_roundw
    case rel => exact ⟨j + 1, by omega, by go_num, (HV.out.set hj4 x).eq (fun q _ => got4_next HLX.out q), tk.trans (KTouch.set _ (by simp) _ _)⟩
    case measure => simp [intOf]; omega
  have hd : decide (j < min l.length 4) = false := decide_eq_false hjm
  rw [hd]
  replace hv := hv.eq (got4_end hjm)
  replace hTw := hTw.set tk hvb hw1A
  replace hx := Below.trans hx (tk.below (B := w.heap.size + 1) (by simp; omega) hx.size)
  clear hcl hbw tk
  rename World => wV
  have hvlt := hv.lt
  have HWn : Hid (∀ (k0 k' : KD) (F' : List Nat) (a' : KW) W w', Two C w1 W p (.slice ca p.code.length cc) (.slice sa p.spans.length sc) (.slice wa p.wires.length wc') k0 kb F' a' → vb < W.heap.size → vb ∉ F' ++ KF a' → a'.kb = a.kb → V4 W vb (fun q => l.getD q 0) → Bx w W (.slice ca p.code.length cc) p.ticks (.slice sa p.spans.length sc) (.slice wa p.wires.length wc') → ∀ F2 a2, Went C w1 W w' p (.slice ca p.code.length cc) (.slice sa p.spans.length sc) (.slice wa p.wires.length wc') k' kb F' F2 a' a2 → a2.kb = a.kb ∧ Two C w1 w' p (.slice ca p.code.length cc) (.slice sa p.spans.length sc) (.slice wa p.wires.length wc') k' kb F2 a2 ∧ V4 w' vb (fun q => l.getD q 0) ∧ Bx w w' (.slice ca p.code.length cc) p.ticks (.slice sa p.spans.length sc) (.slice wa p.wires.length wc') ∧ vb ∉ F2 ++ KF a2) := by
    intro k0 k' F' a' W w' hT hlt hn hkb hv4 hbx F2 a2 hw
    obtain ⟨e1, e2⟩ := hw.keep hlt hn
    exact ⟨hw.kb.trans hkb, hw.two, e1.trans hv4, Below.trans hbx ((hw.touch.below hT.mge (C.since hT.K).size).mono hs1), e2⟩
  go_step
  go_upto_region 15 with fail
  obtain ⟨y0, y1, y2, y3⟩ := hv.cs
  go_cut [74] from 72 to 73 (fun s74 wx => s74 = .bool (decide (l.getD 0 0 = 0)) ∧ wx = wV)
  case first =>
    by_cases hz : l.getD 0 0 = 0
    · rw [hz] at y0
      have HX : Hid (decide (l.getD 0 0 = 0) = true) := decide_eq_true hz
      go_wp2_with fail
      go_meet
      case rel => exact ⟨by rw [HX.out], rfl⟩
    · have hz' : (l.getD 0 0 == 0) = false := by simpa using hz
      have HX : Hid (decide (l.getD 0 0 = 0) = false) := decide_eq_false hz
      generalize l.getD 0 0 = v0 at y0 hz hz'
      go_wp2_with fail
      go_meet
      case rel => exact ⟨by rw [HX.out], rfl⟩
  case rest =>
  obtain ⟨rfl, hwc⟩ := hcut
  rw [hwc]
  clear hwc wc y0 y1 y2 y3
  go_step
  go_cut [5, 8, 13] from 74 to 104 (fun s5 s8 s13 wx => s8 = .bool true ∧ ∃ (k' : KD) (F' : List Nat) (a' : KW), k'.time ≤ 5 * ((i : Int) + 1) ∧ a'.kb = a.kb ∧ Two C w1 wx p (.slice ca p.code.length cc) (.slice sa p.spans.length sc) (.slice wa p.wires.length wc') k' kb F' a' ∧ V4 wx vb (fun q => l.getD q 0) ∧ Bx w wx (.slice ca p.code.length cc) p.ticks (.slice sa p.spans.length sc) (.slice wa p.wires.length wc') ∧ vb ∉ F' ++ KF a')
  case first =>
    obtain ⟨c0, c1, c2, c3⟩ := hv.cs
    by_cases hz : l.getD 0 0 = 0
    · rw [show decide (l.getD 0 0 = 0) = true from decide_eq_true hz]
      clear c0
      have HV : Hid (V4 wV vb (fun q => l.getD q 0)) := hv
      have q1 := two_poke CP hp (l.getD 1 0) (l.getD 2 0) (l.getD 3 0) hTw
      have HQ : Hid (∀ w' F2 a2, Went C w1 wV w' p (.slice ca p.code.length cc) (.slice sa p.spans.length sc) (.slice wa p.wires.length wc') (pokeK k (l.getD 1 0) (l.getD 2 0) (l.getD 3 0)) kb F1 F2 a1 a2 → _) := fun w' F2 a2 hw => HWn.out k _ F1 a1 wV w' hTw hvlt hvb hak hv hx F2 a2 hw
      have HTm : Hid ((pokeK k (l.getD 1 0) (l.getD 2 0) (l.getD 3 0)).time ≤ 5 * ((i : Int) + 1)) := by
        show _ ≤ _
        rw [pokeK_time]
        omega
      rw [hak] at q1
      obtain ⟨z, hzz⟩ : ∃ z, z = pokeN k (l.getD 1 0) (l.getD 2 0) (l.getD 3 0) := ⟨_, rfl⟩
      rw [← hzz] at q1
      generalize pokeK k (l.getD 1 0) (l.getD 2 0) (l.getD 3 0) = k2 at q1 HQ HTm
      clear hzz hz hv hTw hx
      generalize l.getD 1 0 = v1 at *
      generalize l.getD 2 0 = v2 at *
      generalize l.getD 3 0 = v3 at *
      obtain ⟨ve, hve⟩ : ∃ ve, ve = wErr z := ⟨_, rfl⟩
      have HE3 : Hid (∀ W, G W → Calls Tryz.prog 7 #[ve, .int .i64 z] W fun r w' => r = .returned (.bool true) ∧ Below W.heap.size W w') := fun W hg => by rw [hve]; exact HE.out z W hg
      rw [← hve] at q1
      clear hve
      have HC : Hid (∀ W, KTouch (F1 ++ a1.m) wV W → ∀ q, W.cell? ⟨vb, q, none⟩ = wV.cell? ⟨vb, q, none⟩) := fun W tk q => World.cell?_of_block (w := wV) (a := ⟨vb, q, none⟩) (tk.block vb hvlt (fun hm => hvb (own_m hm)))
      go_wp2_with (first
        | (go_at_call 9; refine q1.mono ?_; rintro e w5 ⟨rfl, tk5, q2⟩; clear q1; have d1 := (HC.out w5 tk5 1).trans c1; have d2 := (HC.out w5 tk5 2).trans c2; have d3 := (HC.out w5 tk5 3).trans c3)
        | (go_at_call 10; refine q2.mono ?_; rintro e w6 ⟨rfl, F2, hWt⟩; clear q2; have hq := HQ.out w6 F2 a1 hWt; have q3 := HE3.out w6 (HG.out w6 hq.2.2.2.1.below))
        | (go_at_call 7; refine q3.mono ?_; rintro e w7 ⟨rfl, b7⟩; clear q3))
      go_meet
      case rel => exact ⟨rfl, k2, F2, a1, HTm.out, hq.1, hq.2.1.all b7, (b7.block vb hq.2.2.1.lt).trans hq.2.2.1, hq.2.2.2.1.step b7, hq.2.2.2.2⟩
    · rw [show decide (l.getD 0 0 = 0) = false from decide_eq_false hz]
      have heq := eql_ev
      go_wp2_with fail
      go_loopw [8, 13] (fun s8 s13 wr => ∃ (m : Nat) (k' : KD) (F' : List Nat) (a' : KW), m ≤ 5 ∧ s8 = .bool true ∧ s13 = .int .i64 m ∧ k'.time ≤ 5 * (i : Int) + m ∧ a'.kb = a.kb ∧ Two C w1 wr p (.slice ca p.code.length cc) (.slice sa p.spans.length sc) (.slice wa p.wires.length wc') k' kb F' a' ∧ V4 wr vb (fun q => l.getD q 0) ∧ Bx w wr (.slice ca p.code.length cc) p.ticks (.slice sa p.spans.length sc) (.slice wa p.wires.length wc') ∧ vb ∉ F' ++ KF a') (fun _ s _ => 5 - (intOf s).toNat)
      case atStart => exact ⟨0, k, F1, a1, Nat.zero_le _, rfl, rfl, by simpa using htm, hak, hTw, hv, hx, hvb⟩
      case round =>
      clear hTw hv hx c0 c1 c2 c3 hvlt hvb hak
      obtain ⟨m, k', F', a', hm, rfl, rfl, htm', hak', hTw, hv, hx, hvb⟩ := hrel
      by_cases hm5 : m < 5
      case pos =>
        have hmi : (m : Int) < 5 := by omega
        have q1 := two_tick HG1.out hp (by omega) hTw
        have HQ : Hid (∀ w' F2 a2, Went C w1 wr w' p (.slice ca p.code.length cc) (.slice sa p.spans.length sc) (.slice wa p.wires.length wc') (tickK p p.spans k').1 kb F' F2 a' a2 → _) := fun w' F2 a2 hw => HWn.out k' _ F' a' wr w' hTw hv.lt hvb hak' hv hx F2 a2 hw
        have HTm : Hid ((tickK p p.spans k').1.time ≤ 5 * (i : Int) + ((m + 1 : Nat) : Int)) := by
          show _ ≤ _
          rw [tick_time]
          omega
        rw [hak'] at q1
        unfold evA at q1
        generalize (tickK p p.spans k').1 = k2 at q1 HQ HTm
        generalize (tickK p p.spans k').2.1 = t1 at q1
        generalize (tickK p p.spans k').2.2.1 = t2 at q1
        generalize (tickK p p.spans k').2.2.2.1 = t3 at q1
        generalize (tickK p p.spans k').2.2.2.2 = t4 at q1
        clear hTw hv hx
        go_wp2_with (first
          | (go_at_call 11; refine q1.mono ?_; rintro e w5 ⟨rfl, q2⟩; clear q1)
          | (go_at_call 12; refine q2.mono ?_; rintro e w6 ⟨rfl, F2, a2, hWt⟩; clear q2; have hq := HQ.out w6 F2 a2 hWt))
        go_roundw
        case rel => exact ⟨m + 1, k2, F2, a2, by omega, rfl, by go_num, HTm.out, hq⟩
        case measure => simp [intOf]; omega
      obtain rfl : m = 5 := by omega
      rw [show ((5 : Nat) : Int) = 5 from rfl] at htm' ⊢
      have HF : Hid (∃ (k' : KD) (F' : List Nat) (a' : KW), k'.time ≤ 5 * ((i : Int) + 1) ∧ a'.kb = a.kb ∧ Two C w1 wr p (.slice ca p.code.length cc) (.slice sa p.spans.length sc) (.slice wa p.wires.length wc') k' kb F' a' ∧ V4 wr vb (fun q => l.getD q 0) ∧ Bx w wr (.slice ca p.code.length cc) p.ticks (.slice sa p.spans.length sc) (.slice wa p.wires.length wc') ∧ vb ∉ F' ++ KF a') := ⟨k', F', a', by omega, hak', hTw, hv, hx, hvb⟩
      clear hTw hv hx
      go_wp2_with fail
      go_meet
      case rel => exact ⟨rfl, HF.out⟩
  case rest =>
  obtain ⟨rfl, hfin⟩ := hcut
  clear hTw hv hx hvlt hvb htm hak HWn
  obtain ⟨k', F', a', htm', hak', hTw, hv, hx, hvb⟩ := hfin
  rename World => wM
  have hflt := hTw.flt
  have hvlt := hv.lt
  have hsb : wM.heap.size ∉ F' ++ KF a' := fun hm => by have := hflt _ hm; omega
  have hsv : wM.heap.size ≠ vb := by omega
  have hMw : w1.heap.size ≤ wM.heap.size := (C.since hTw.K).size
  go_step
  go_upto_region 25 with fail
  have bMN : Below wM.heap.size wM (wM.alloc (.cells #[.int .i64 0, .int .i64 0, .int .i64 0, .int .i64 0, .int .i64 0, .int .i64 0, .int .i64 0, .bool false] 46)) := (Below.refl _ _).alloc (Nat.le_refl _) _
  have hst : StB (wM.alloc (.cells #[.int .i64 0, .int .i64 0, .int .i64 0, .int .i64 0, .int .i64 0, .int .i64 0, .int .i64 0, .bool false] 46)) wM.heap.size stNew := World.alloc_heap_new wM _
  replace hTw := hTw.all bMN
  replace hv : V4 _ vb (fun q => l.getD q 0) := (bMN.block vb hvlt).trans hv
  replace hx := hx.step bMN
  clear bMN hflt
  generalize (wM.alloc (.cells #[.int .i64 0, .int .i64 0, .int .i64 0, .int .i64 0, .int .i64 0, .int .i64 0, .int .i64 0, .bool false] 46)) = wN at hst hTw hv hx ⊢
  generalize wM.heap.size = sb at hst hsb hsv hMw ⊢
  obtain ⟨c0, c1, c2, c3⟩ := hv.cs
  obtain ⟨v1, hv1⟩ : ∃ v, v = l.getD 1 0 := ⟨_, rfl⟩
  rw [← hv1] at c1
  have HV1 : Hid (v1 = l.getD 1 0) := hv1
  clear hv1
  have k0 := hx.c0
  have HRl : Hid (k'.rooms.length = p.code.length ∧ k'.lines.length = p.wires.length) := ⟨hTw.ok.rl, hTw.ok.ll⟩
  go_cut [115] from 105 to 114 (fun s wx => s = .bool (noRoom k' v1) ∧ wx = wN)
  case first =>
    by_cases h0 : v1 < 0
    · have HX : Hid (noRoom k' v1 = true) := by show _ = _; unfold noRoom; simp [h0]
      go_wp2_with fail
      go_meet
      case rel => exact ⟨by rw [HX.out], rfl⟩
    · have h0' : decide (v1 < 0) = false := decide_eq_false h0
      have HX : Hid (noRoom k' v1 = decide ((p.code.length : Int) ≤ v1)) := by show _ = _; unfold noRoom; rw [HRl.out.1]; simp [h0']
      go_wp2_with fail
      go_meet
      case rel => exact ⟨by rw [HX.out], rfl⟩
  case rest =>
  obtain ⟨rfl, hwc⟩ := hcut
  rw [hwc]
  clear hwc wc
  go_step
  go_cut [5] from 115 to 123 (fun s5 wx => s5 = .int .i64 (errB (noRoom k' v1)) ∧ StB wx sb (roomK k' v1) ∧ KTouch [sb] wN wx)
  case first =>
    cases hno : noRoom k' v1 with
    | true =>
      have HX : Hid (roomK k' v1 = stNew) := by show _ = _; unfold roomK; rw [hno, if_pos rfl]
      have HNo : Hid (noRoom k' v1 = true) := hno
      go_wp2_with fail
      go_meet
      case rel => exact ⟨by rw [HNo.out]; rfl, by rw [HX.out]; exact hst, KTouch.refl _ _⟩
    | false =>
      have hrange : 0 ≤ v1 ∧ v1 < p.code.length := by
        unfold noRoom at hno
        rw [HRl.out.1] at hno
        simp only [Bool.or_eq_false_iff, decide_eq_false_iff_not] at hno
        omega
      obtain ⟨rn, rfl⟩ : ∃ n : Nat, v1 = n := ⟨v1.toNat, by omega⟩
      have hrl : rn < k'.rooms.length := by rw [HRl.out.1]; omega
      have hri : (rn : Int) < (k'.rooms.length : Int) := by omega
      obtain ⟨s, hs⟩ : ∃ s, k'.rooms[rn]? = some s := ⟨_, List.getElem?_eq_getElem hrl⟩
      have HX : Hid (roomK k' (rn : Int) = s) := by show _ = _; unfold roomK; rw [hno, if_neg (by decide), Int.toNat_natCast]; simp [List.getD, hs]
      have hth := hst.there
      have k4 := hTw.R.c4
      rw [hak'] at k4
      obtain ⟨s0, s1, s2, s3, s4, s5, s6, s7⟩ := hTw.R.rooms rn s hs
      have HST : Hid (StB wN sb stNew) := hst
      have HNo : Hid (noRoom k' (rn : Int) = false) := hno
      clear hs hst hTw hv hx k0 c0 c2 c3 hno
      go_upto_region 27 with fail
      refine wp_region_quiet_last (by kernel_rfl) rfl (by decide +kernel) (by decide +kernel) ?_
      simp only [List.dropLast_cons_cons, List.dropLast_singleton]
      repeat (go_big_quiet_step (fail))
      refine wpQuiet_nil ?_
      intro _ hw'
      obtain ⟨nq, hw''⟩ := hw'
      subst hw''
      refine wp_store_mid _ _ _ rfl sb 0 _ rfl rfl (hth nq) rfl (by simp [Value.oneCell']) ?_
      go_wp2_with fail
      go_meet
      case rel =>
        have bN : Below wN.heap.size wN (wN.drewN nq) := below_dN (Below.refl _ _) nq
        have hst2 : StB (wN.drewN nq) sb stNew := (bN.block sb (Array.getElem?_eq_some_iff.1 HST.out).1).trans HST.out
        exact ⟨by rw [HNo.out]; rfl, by rw [HX.out]; exact hst2.set s, (KTouch.of bN).trans (setSt_touch _ (by simp) 0 s)⟩
  case rest =>
  obtain ⟨rfl, hst', tk⟩ := hcut
  rename World => wP
  replace hTw := hTw.set tk hsb hMw
  replace hv : V4 wP vb (fun q => l.getD q 0) := (tk.block vb hv.lt (by simpa using Ne.symm hsv)).trans hv
  replace hx : Bx w wP (.slice ca p.code.length cc) p.ticks (.slice sa p.spans.length sc) (.slice wa p.wires.length wc') := Below.trans hx (tk.below (B := w.heap.size + 1) (by simp; omega) hx.size)
  clear hst tk k0 c0 c1 c2 c3
  obtain ⟨c0, c1, c2, c3⟩ := hv.cs
  rw [← HV1.out] at c1
  have hnq := eql_st
  obtain ⟨s, hs⟩ : ∃ s, s = roomK k' v1 := ⟨_, rfl⟩
  obtain ⟨z, hz⟩ : ∃ z, z = errB (noRoom k' v1) := ⟨_, rfl⟩
  obtain ⟨ve, hve⟩ : ∃ ve, ve = wErr z := ⟨_, rfl⟩
  have HSt : Hid (Calls Tryz.prog 13 #[.pointer (some ⟨kb, 0, none⟩), .int .i64 v1] wP fun e w5 => e = .returned (.tuple #[.agg #[.int .i64 s.p, .int .i64 (s.c 0), .int .i64 (s.c 1), .int .i64 (s.c 2), .int .i64 (s.c 3), .int .i64 (s.c 4), .int .i64 (s.c 5), .bool s.f], ve]) ∧
      Calls Tryz.prog 7 #[ve, .int .i64 z] (w5.alloc (.cells #[.int .i64 s.p, .int .i64 (s.c 0), .int .i64 (s.c 1), .int .i64 (s.c 2), .int .i64 (s.c 3), .int .i64 (s.c 4), .int .i64 (s.c 5), .bool s.f] 46)) fun r w6 => r = .returned (.bool true) ∧ Below wP.heap.size wP w6 ∧ StB w6 w5.heap.size s ∧ StB w6 sb s) := by
    refine (C.state v1 hTw.K hTw.ok hp).mono ?_
    rintro e w5 ⟨rfl, b5⟩
    refine ⟨by rw [hve, hz, hs]; rfl, ?_⟩
    have b5a : Below wP.heap.size wP (w5.alloc (.cells #[.int .i64 s.p, .int .i64 (s.c 0), .int .i64 (s.c 1), .int .i64 (s.c 2), .int .i64 (s.c 3), .int .i64 (s.c 4), .int .i64 (s.c 5), .bool s.f] 46)) := b5.alloc b5.size _
    have hq := HE.out z _ (HG.out _ (hx.below.trans (b5a.mono hx.below.size)))
    rw [← hve] at hq
    refine hq.mono ?_
    rintro r w6 ⟨rfl, b6⟩
    refine ⟨rfl, b5a.trans (b6.mono b5a.size), (b6.block _ (by simp)).trans (World.alloc_heap_new w5 _), ?_⟩
    rw [hs]
    have hlt := (Array.getElem?_eq_some_iff.1 hst').1
    exact ((b5a.trans (b6.mono b5a.size)).block sb hlt).trans hst'
  rw [← hz]
  clear hs hz hve hst'
  go_step
  go_upto_region 30 with (first
    | (go_at_call 13; refine HSt.out.mono ?_; rintro e w5 ⟨rfl, q2⟩; clear HSt)
    | (go_at_call 7; refine q2.mono ?_; rintro r w6 ⟨rfl, b6, hb1, hb2⟩; clear q2; obtain ⟨e0, e1, e2, e3, e4, e5, e6, e7⟩ := hb1.cs; obtain ⟨f0, f1, f2, f3, f4, f5, f6, f7⟩ := hb2.cs; simp only [Nat.zero_add] at e1 e2 e3 e4 e5 e6 e7 f1 f2 f3 f4 f5 f6 f7))
  replace hTw := hTw.all b6
  replace hv : V4 w6 vb (fun q => l.getD q 0) := (b6.block vb hv.lt).trans hv
  replace hx := hx.step b6
  clear b6 hb1 hb2 e0 e1 e2 e3 e4 e5 e6 e7 f0 f1 f2 f3 f4 f5 f6 f7 c0 c1 c2 c3 hnq hsb hsv hMw
  have hflt2 := hTw.flt
  have hvlt2 := hv.lt
  have hhb : w6.heap.size ∉ F' ++ KF a' := fun hm => by have := hflt2 _ hm; omega
  have hhv : w6.heap.size ≠ vb := by omega
  have hHw : w1.heap.size ≤ w6.heap.size := (C.since hTw.K).size
  go_upto_region 32 with fail
  have bQ : Below w6.heap.size w6 (w6.alloc (.cells #[.slice none 0 0, .int .i64 0] 54)) := (Below.refl _ _).alloc (Nat.le_refl _) _
  have hhd : HdB (w6.alloc (.cells #[.slice none 0 0, .int .i64 0] 54)) w6.heap.size (.slice none 0 0) 0 := World.alloc_heap_new w6 _
  replace hTw := hTw.all bQ
  replace hv : V4 _ vb (fun q => l.getD q 0) := (bQ.block vb hvlt2).trans hv
  replace hx := hx.step bQ
  clear bQ hflt2
  generalize (w6.alloc (.cells #[.slice none 0 0, .int .i64 0] 54)) = wQ at hhd hTw hv hx ⊢
  generalize w6.heap.size = hb at hhd hhb hhv hHw ⊢
  obtain ⟨c0, c1, c2, c3⟩ := hv.cs
  obtain ⟨v2, hv2⟩ : ∃ v, v = l.getD 2 0 := ⟨_, rfl⟩
  rw [← hv2] at c2
  have HV2 : Hid (v2 = l.getD 2 0) := hv2
  clear hv2
  have k3 := hx.c3
  go_cut [149] from 139 to 148 (fun s wx => s = .bool (noLine k' v2) ∧ wx = wQ)
  case first =>
    by_cases h0 : v2 < 0
    · have HX : Hid (noLine k' v2 = true) := by show _ = _; unfold noLine; simp [h0]
      go_wp2_with fail
      go_meet
      case rel => exact ⟨by rw [HX.out], rfl⟩
    · have h0' : decide (v2 < 0) = false := decide_eq_false h0
      have HX : Hid (noLine k' v2 = decide ((p.wires.length : Int) ≤ v2)) := by show _ = _; unfold noLine; rw [HRl.out.2]; simp [h0']
      go_wp2_with fail
      go_meet
      case rel => exact ⟨by rw [HX.out], rfl⟩
  case rest =>
  obtain ⟨rfl, hwc⟩ := hcut
  rw [hwc]
  clear hwc wc
  go_step
  go_cut [5] from 149 to 160 (fun s5 wx => s5 = .int .i64 (errB (noLine k' v2)) ∧ ∃ u, HdB wx hb u (lineK k' v2).ls ∧ Rd wx u (lineK k' v2).xs ∧ KTouch [hb] wQ wx)
  case first =>
    cases hno : noLine k' v2 with
    | true =>
      have HX : Hid (lineK k' v2 = LnD.none) := by show _ = _; unfold lineK; rw [hno, if_pos rfl]
      have HNo : Hid (noLine k' v2 = true) := hno
      go_wp2_with fail
      go_meet
      case rel => exact ⟨by rw [HNo.out]; rfl, _, by rw [HX.out]; exact hhd, by rw [HX.out]; exact Or.inl ⟨rfl, _, _, rfl⟩, KTouch.refl _ _⟩
    | false =>
      have hrange : 0 ≤ v2 ∧ v2 < p.wires.length := by
        unfold noLine at hno
        rw [HRl.out.2] at hno
        simp only [Bool.or_eq_false_iff, decide_eq_false_iff_not] at hno
        omega
      obtain ⟨rn, rfl⟩ : ∃ n : Nat, v2 = n := ⟨v2.toNat, by omega⟩
      have hrl : rn < k'.lines.length := by rw [HRl.out.2]; omega
      have hri : (rn : Int) < (k'.lines.length : Int) := by omega
      obtain ⟨lb, lu, lcap, ln, hl, hlb, hlu, hlv, hlc, hlp, hlm, hRl⟩ := hTw.R.at hrl
      have HX : Hid (lineK k' (rn : Int) = ln) := by show _ = _; unfold lineK; rw [hno, if_neg (by decide), Int.toNat_natCast]; simp [List.getD, hl]
      have hth := hhd.there
      have k5 := hTw.R.c5
      rw [hlv, hak'] at k5
      obtain ⟨g2, g3, g4, g5, _, _⟩ := hRl.c
      obtain ⟨ua2, uc2, rfl⟩ := hRl.rd.form
      have HRd : Hid (Rd wQ (.slice ua2 ln.xs.length uc2) ln.xs ∧ (∀ g, (Value.slice ua2 ln.xs.length uc2).ownBlock = some g → g ≠ hb)) := ⟨hRl.rd, fun g hg e => hhb (List.mem_append.2 (Or.inr (by
        rw [← e]
        unfold KF
        simp only [List.mem_cons, List.mem_append, List.mem_filterMap]
        exact Or.inr (Or.inr (Or.inr (Or.inr ⟨_, List.mem_of_getElem? hlu, hg⟩))))))⟩
      have HHD : Hid (HdB wQ hb (.slice none 0 0) 0) := hhd
      have HNo : Hid (noLine k' (rn : Int) = false) := hno
      clear hl hlb hlu hlv hRl hhd hTw hv hx k3 c0 c1 c3 hno g2 g3
      go_upto_region 34 with fail
      refine wp_region_quiet_last (by kernel_rfl) rfl (by decide +kernel) (by decide +kernel) ?_
      simp only [List.dropLast_cons_cons, List.dropLast_singleton]
      repeat (go_big_quiet_step (fail))
      refine wpQuiet_nil ?_
      intro _ hw'
      obtain ⟨nq, hw''⟩ := hw'
      subst hw''
      refine wp_store_mid _ _ _ rfl hb 0 _ rfl rfl (hth nq) rfl (by simp [Value.oneCell']) ?_
      go_wp2_with fail
      go_meet
      case rel =>
        have bN : Below wQ.heap.size wQ (wQ.drewN nq) := below_dN (Below.refl _ _) nq
        have hh2 : HdB (wQ.drewN nq) hb (.slice none 0 0) 0 := (bN.block hb HHD.out.lt).trans HHD.out
        have tk2 : KTouch [hb] wQ (((wQ.drewN nq).setCell ⟨hb, 0, none⟩ (.slice ua2 ln.xs.length uc2)).setCell ⟨hb, 1, none⟩ (.int .i64 ln.ls)) := ((KTouch.of bN).trans (KTouch.set _ (by simp) 0 _)).trans (KTouch.set _ (by simp) 1 _)
        exact ⟨by rw [HNo.out]; rfl, .slice ua2 ln.xs.length uc2, by rw [HX.out]; exact hh2.set _ _, by rw [HX.out]; exact HRd.out.1.block (fun g hg he => tk2.block g hg (by simpa using HRd.out.2 g he)) tk2.size, tk2⟩
  case rest =>
  obtain ⟨rfl, u, hhd', hrd', tk⟩ := hcut
  rename World => wR
  replace hTw := hTw.set tk hhb hHw
  replace hv : V4 wR vb (fun q => l.getD q 0) := (tk.block vb hv.lt (by simpa using Ne.symm hhv)).trans hv
  replace hx : Bx w wR (.slice ca p.code.length cc) p.ticks (.slice sa p.spans.length sc) (.slice wa p.wires.length wc') := Below.trans hx (tk.below (B := w.heap.size + 1) (by simp; omega) hx.size)
  clear hhd tk k3 c0 c1 c2 c3
  obtain ⟨c0, c1, c2, c3⟩ := hv.cs
  rw [← HV2.out] at c2
  obtain ⟨ln, hln⟩ : ∃ x, x = lineK k' v2 := ⟨_, rfl⟩
  rw [← hln] at hhd' hrd'
  have hlen : ln.xs.length ≤ 1000000 := by rw [hln]; exact lineK_len hp hTw.ok v2
  obtain ⟨xa, xc, rfl⟩ := hrd'.form
  obtain ⟨z2, hz⟩ : ∃ z, z = errB (noLine k' v2) := ⟨_, rfl⟩
  obtain ⟨ve2, hve⟩ : ∃ ve, ve = wErr z2 := ⟨_, rfl⟩
  have HWi : Hid (Calls Tryz.prog 14 #[.pointer (some ⟨kb, 0, none⟩), .int .i64 v2] wR fun e w5 => ∃ ua uc, e = .returned (.tuple #[.agg #[.slice ua ln.xs.length uc, .int .i64 ln.ls], ve2]) ∧
      Calls Tryz.prog 7 #[ve2, .int .i64 z2] (w5.alloc (.cells #[.slice ua ln.xs.length uc, .int .i64 ln.ls] 54)) fun r w6 => r = .returned (.bool true) ∧ (w6.cell? ⟨w5.heap.size, 0, none⟩ = some (.slice ua ln.xs.length uc) ∧ w6.cell? ⟨w5.heap.size, 1, none⟩ = some (.int .i64 ln.ls) ∧ w6.cell? ⟨hb, 0, none⟩ = some (.slice xa ln.xs.length xc) ∧ w6.cell? ⟨hb, 1, none⟩ = some (.int .i64 ln.ls)) ∧
      Calls Tryz.prog 15 #[.agg #[.slice ua ln.xs.length uc, .int .i64 ln.ls], .agg #[.slice xa ln.xs.length xc, .int .i64 ln.ls]] w6 fun r w7 => r = .returned (.bool true) ∧ Below wR.heap.size wR w7) := by
    refine (CW v2 hTw.K hTw.ok hp).mono ?_
    rintro e w5 ⟨u, rfl, h1, _, b5⟩
    rw [← hln] at h1 ⊢
    obtain ⟨ua, uc, rfl⟩ := h1.form
    refine ⟨ua, uc, by rw [hve, hz], ?_⟩
    have b5a : Below wR.heap.size wR (w5.alloc (.cells #[.slice ua ln.xs.length uc, .int .i64 ln.ls] 54)) := b5.alloc b5.size _
    have hq := HE.out z2 _ (HG.out _ (hx.below.trans (b5a.mono hx.below.size)))
    rw [← hve] at hq
    refine hq.mono ?_
    rintro r w6 ⟨rfl, b6⟩
    have b6a := b5a.trans (b6.mono b5a.size)
    have hB1 : HdB w6 w5.heap.size (.slice ua ln.xs.length uc) ln.ls := (b6.block _ (by simp)).trans (World.alloc_heap_new w5 _)
    have hB2 : HdB w6 hb (.slice xa ln.xs.length xc) ln.ls := (b6a.block hb hhd'.lt).trans hhd'
    refine ⟨rfl, ⟨hB1.cs.1, hB1.cs.2, hB2.cs.1, hB2.cs.2⟩, ?_⟩
    have bX : Below w5.heap.size w5 (w5.alloc (.cells #[.slice ua ln.xs.length uc, .int .i64 ln.ls] 54)) := (Below.refl _ _).alloc (Nat.le_refl _) _
    have bY : Below w5.heap.size w5 w6 := bX.trans (b6.mono bX.size)
    refine (wheld_any _ _ ln.xs ln.ls w6 (h1.block (fun g hg _ => bY.block g hg) bY.size) (hrd'.block (fun g hg _ => b6a.block g hg) b6a.size) hlen).mono ?_
    rintro r w7 ⟨rfl, b7⟩
    exact ⟨rfl, b6a.trans (b7.mono b6a.size)⟩
  rw [← hz]
  clear hz hve hhd' hrd' hln hlen
  go_step
  go_upto_region 37 with (first
    | (go_at_call 14; refine HWi.out.mono ?_; rintro e w5 ⟨ua, uc, rfl, q2⟩; clear HWi)
    | (go_at_call 7; refine q2.mono ?_; rintro r w6 ⟨rfl, ⟨f0, f1, f2, f3⟩, q3⟩; clear q2)
    | (go_at_call 15; refine q3.mono ?_; rintro r w7 ⟨rfl, b7⟩; clear q3))
  replace hTw := hTw.all b7
  replace hx := hx.step b7
  clear f0 f1 f2 f3 c0 c1 c2 c3 hv b7
  have HTm : Hid (∀ nq, Calls Tryz.prog 16 #[.pointer (some ⟨kb, 0, none⟩)] (w7.drewN nq) fun e w' => e = .returned (.int .i64 k'.time) ∧ ∃ m, w' = (w7.drewN nq).drewN m) := fun nq => CT (C.frame hTw.K (KTouch.of (M := []) (below_dN (Below.refl _ w7) nq)) (by simp))
  have k6 := hTw.R.c6
  rw [hak'] at k6
  have HFin : Hid (∀ nq, Two C w1 (w7.drewN nq) p (.slice ca p.code.length cc) (.slice sa p.spans.length sc) (.slice wa p.wires.length wc') k' kb F' a' ∧ Bx w (w7.drewN nq) (.slice ca p.code.length cc) p.ticks (.slice sa p.spans.length sc) (.slice wa p.wires.length wc')) := fun nq => ⟨hTw.all (below_dN (Below.refl _ w7) nq), hx.dN nq⟩
  clear hTw hx
  go_quiet ((go_at_call 16; exact Calls.quiet_of (HTm.out _)))
  go_wp2
  go_roundw
  case rel => exact ⟨i + 1, k', F', a', by omega, by go_num, (by have := htm'; push_cast; omega), hak', (HFin.out nq).1, (HFin.out nq).2⟩
  case measure => simp [intOf]; omega
end Go.Proofs.YtajfgmlockjmhadGreatDoor
