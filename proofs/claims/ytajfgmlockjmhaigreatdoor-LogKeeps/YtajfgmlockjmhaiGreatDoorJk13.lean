/-
  KFrame, KRefTk, DocOne, DocPk, Alike, Redo, LgRows, LgStep, LgKeep0, LgKeep: joined into one text.
-/
import Derived.Test.YtajfgmlockjmhaiGreatDoorKRefTick
import Derived.Test.YtajfgmlockjmhaiGreatDoorKRefNew
import Derived.Deep.CutRange
import Derived.Deep.RegionWith
import Derived.BigQuiet
import Derived.RangeFuncNested
import Derived.Test.YtajfgmlockjmhaiGreatDoorJk2
import Derived.Test.YtajfgmlockjmhaiGreatDoorJk7
import Derived.Test.YtajfgmlockjmhaiGreatDoorJk1
import Derived.Deep.RegionHeld3
namespace Go.Proofs.YtajfgmlockjmhaiGreatDoor
open Go.RowKit

/-- The blocks of the document's kernel. -/
def KF (a : KW) : List Nat := a.kb :: a.rb :: a.lr :: (a.bs ++ a.us.filterMap Value.ownBlock)
theorem KF.m {a : KW} : ∀ g ∈ a.m, g ∈ KF a := fun g hg => by
  unfold KW.m at hg
  unfold KF
  simp only [List.mem_cons, List.mem_append] at hg ⊢
  rcases hg with h | h | h
  · exact Or.inl h
  · exact Or.inr (Or.inl h)
  · exact Or.inr (Or.inr (Or.inr (Or.inl h)))
theorem KF.us {a : KW} {us : List Value} {n : Nat} (h : ∀ u ∈ us, ∀ g, u.ownBlock = some g → OldU a g ∨ n ≤ g) : ∀ g ∈ KF { a with us := us }, g ∈ KF a ∨ n ≤ g := fun g hg => by
  unfold KF at hg ⊢
  simp only [List.mem_cons, List.mem_append, List.mem_filterMap] at hg ⊢
  rcases hg with h1 | h1 | h1 | h1 | ⟨u, h1, h2⟩
  · exact Or.inl (Or.inl h1)
  · exact Or.inl (Or.inr (Or.inl h1))
  · exact Or.inl (Or.inr (Or.inr (Or.inl h1)))
  · exact Or.inl (Or.inr (Or.inr (Or.inr (Or.inl h1))))
  · rcases h u h1 g h2 with ⟨u0, h3, h4⟩ | h3
    · exact Or.inl (Or.inr (Or.inr (Or.inr (Or.inr ⟨u0, h3, h4⟩))))
    · exact Or.inr h3
theorem RK.flt {w : World} {base : Nat} {p : PD} {vc vs vw : Value} {k : KD} {a : KW} (h : RK w base p vc vs vw k a) : ∀ g ∈ KF a, g < w.heap.size := fun g hg => by
  have hle := h.le
  unfold KF at hg
  simp only [List.mem_cons, List.mem_append, List.mem_filterMap] at hg
  rcases hg with h1 | h1 | h1 | h1 | ⟨u, h1, h2⟩
  · have := h.lt.1; omega
  · have := h.lt.2.1; omega
  · have := h.lt.2.2.1; omega
  · have := h.lt.2.2.2 g h1; omega
  · exact (h.rows u h1 g h2).2
/-- What is written elsewhere leaves it as it is. -/
theorem RK.frame {w w' : World} {base : Nat} {p : PD} {vc vs vw : Value} {k : KD} {a : KW} (h : RK w base p vc vs vw k a) {M : List Nat} (ht : KTouch M w w') (hM : ∀ m ∈ M, m ∉ KF a) : RK w' base p vc vs vw k a := by
  have hin : ∀ g, g ∈ KF a → w'.heap[g]? = w.heap[g]? := fun g hg => ht.block g (h.flt g hg) (fun hm => hM g hm hg)
  have m1 : a.kb ∈ KF a := by simp [KF]
  have m2 : a.rb ∈ KF a := by simp [KF]
  have m3 : a.lr ∈ KF a := by simp [KF]
  have m4 : ∀ b ∈ a.bs, b ∈ KF a := fun b hb => by simp [KF, hb]
  have m5 : ∀ u ∈ a.us, ∀ g, u.ownBlock = some g → g ∈ KF a := fun u hu g hg => by
    unfold KF
    simp only [List.mem_cons, List.mem_append, List.mem_filterMap]
    exact Or.inr (Or.inr (Or.inr (Or.inr ⟨u, hu, hg⟩)))
  have hc := fun o => World.cell?_of_block (w := w) (w' := w') (a := ⟨a.kb, o, none⟩) (hin _ m1)
  have hf := fun o => World.frozen?_of_block (w := w) (w' := w') (a := ⟨a.kb, o, none⟩) (hin _ m1)
  have hrf := fun o => World.frozen?_of_block (w := w) (w' := w') (a := ⟨a.rb, o, none⟩) (hin _ m2)
  have hlr := fun o => World.cell?_of_block (w := w) (w' := w') (a := ⟨a.lr, o, none⟩) (hin _ m3)
  refine ⟨(hc 0).trans h.c0, (hc 1).trans h.c1, (hc 2).trans h.c2, (hc 3).trans h.c3, (hc 4).trans h.c4, (hc 5).trans h.c5, (hc 6).trans h.c6, (hf 6).trans h.f6, fun i s hs => (h.rooms i s hs).block (hin _ m2), fun o => (hrf o).trans (h.rf o), h.lv, fun i b hi => (hlr i).trans (h.ptr i b hi), h.bl, h.ul, fun i l b u h1 h2 h3 => (h.line i l b u h1 h2 h3).touch ht (fun hm => ?_) (fun g hg hm => ?_), h.ge, h.lt, Nat.le_trans h.le ht.size, h.apart, h.two, h.ft.block (fun b hb => hin b (m4 b hb))⟩
  · exact hM b hm (m4 b (List.mem_of_getElem? h2))
  · exact hM g hm (m5 u (List.mem_of_getElem? h3) g hg)
theorem RK.lower {w : World} {base base' : Nat} {p : PD} {vc vs vw : Value} {k : KD} {a : KW} (h : RK w base p vc vs vw k a) (hb : base' ≤ base) : RK w base' p vc vs vw k a :=
  ⟨h.c0, h.c1, h.c2, h.c3, h.c4, h.c5, h.c6, h.f6, h.rooms, h.rf, h.lv, h.ptr, h.bl, h.ul, h.line, ⟨Nat.le_trans hb h.ge.1, Nat.le_trans hb h.ge.2.1, fun b hm => Nat.le_trans hb (h.ge.2.2 b hm)⟩, h.lt, h.le, h.apart, h.two, h.ft⟩
end Go.Proofs.YtajfgmlockjmhaiGreatDoor
namespace Go.Proofs.YtajfgmlockjmhaiGreatDoor
open Go.RowKit

/-- Tick: by the plan's own spans. -/
theorem reftick_any (p : PD) (vc vw : Value) (sa : Option Addr) (sc : Nat) (k : KD) (a : KW) (base : Nat) (w : World) (hp : plchk p = 0) (hk : KOk p k) (ht : k.time < 100000000) (h : RK w base p vc (.slice sa p.spans.length sc) vw k a) (w0 : World) (hw00 : base = w0.heap.size) (hb0 : Below w0.heap.size w0 w) (hP : Pln w0 vc (.slice sa p.spans.length sc) vw p) :
    Calls Tryz.prog 59 #[.pointer (some ⟨a.kb, 0, none⟩)] w fun e w' => e = .returned (.agg #[.int .i64 (tickK p p.spans k).2.1, .int .i64 (tickK p p.spans k).2.2.1, .int .i64 (tickK p p.spans k).2.2.2.1, .int .i64 (tickK p p.spans k).2.2.2.2]) ∧ (∃ us, RK w' base p vc (.slice sa p.spans.length sc) vw (tickK p p.spans k).1 { a with us := us } ∧ ∀ u ∈ us, ∀ g, u.ownBlock = some g → OldU a g ∨ w.heap.size ≤ g) ∧ KTouch a.m w w' := by
  have hB : Below w.heap.size w (w.alloc (.cells #[.int .i64 0, .int .i64 0, .int .i64 0, .int .i64 0] 39)) := (Below.refl _ w).alloc (Nat.le_refl _) _
  have h1 := h.all hB
  have c2 := h1.c2
  have hq := tickby_any p vc (.slice sa p.spans.length sc) vw p.spans sa sc k a base _ hp hk ht h1 w0 hw00 (hb0.trans (hB.mono hb0.size)) hP.code hP.spans (fchk_zero (plchk_zero hp).2.2.1).2.2.1 (fun t => who_room hp t)
  obtain ⟨t1, ht1⟩ : ∃ x, (tickK p p.spans k).2.1 = x := ⟨_, rfl⟩
  obtain ⟨t2, ht2⟩ : ∃ x, (tickK p p.spans k).2.2.1 = x := ⟨_, rfl⟩
  obtain ⟨t3, ht3⟩ : ∃ x, (tickK p p.spans k).2.2.2.1 = x := ⟨_, rfl⟩
  obtain ⟨t4, ht4⟩ : ∃ x, (tickK p p.spans k).2.2.2.2 = x := ⟨_, rfl⟩
  obtain ⟨k', hk'⟩ : ∃ x, (tickK p p.spans k).1 = x := ⟨_, rfl⟩
  rw [ht1, ht2, ht3, ht4, hk'] at hq
  rw [ht1, ht2, ht3, ht4, hk']
  clear ht1 ht2 ht3 ht4 hk' hP hp hk
  have hmlt : w.heap.size ∉ a.m := fun hm => by have := h.mlt _ hm; have := h.le; omega
  have hle := h.le
  have hold : ∀ g, OldU a g → g < w.heap.size := fun g ⟨u, h2, h3⟩ => (h.rows u h2 g h3).2
  have hbox : (w.alloc (.cells #[.int .i64 0, .int .i64 0, .int .i64 0, .int .i64 0] 39)).heap[w.heap.size]? = some (.cells #[.int .i64 0, .int .i64 0, .int .i64 0, .int .i64 0] 39 (0, 0)) := World.alloc_heap_new w _
  go_enter Tryz.func59, Tryz.ntmps59
  have hst : ∀ w1 : World, KTouch a.m (w.alloc (.cells #[.int .i64 0, .int .i64 0, .int .i64 0, .int .i64 0] 39)) w1 → EvB w1 w.heap.size 0 0 0 0 := fun w1 hk => (hk.block _ (by simp) hmlt).trans hbox
  go_wp2_with (go_at_call 91; refine hq.mono ?_; rintro e w1 ⟨rfl, ⟨us, hr, hu⟩, tk⟩; clear hq; have hev := hst w1 tk; obtain ⟨v0, v1, v2, v3⟩ := hev.cs; obtain ⟨x0, x1, x2, x3⟩ := hev.fs)
  have tkE : KTouch [w.heap.size] w1 ((((w1.setCell ⟨w.heap.size, 0, none⟩ (.int .i64 t1)).setCell ⟨w.heap.size, 1, none⟩ (.int .i64 t2)).setCell ⟨w.heap.size, 2, none⟩ (.int .i64 t3)).setCell ⟨w.heap.size, 3, none⟩ (.int .i64 t4)) := (((KTouch.set w1 (by simp) 0 _).trans (KTouch.set _ (by simp) 1 _)).trans (KTouch.set _ (by simp) 2 _)).trans (KTouch.set _ (by simp) 3 _)
  have hu2 : ∀ u ∈ us, ∀ g, u.ownBlock = some g → OldU a g ∨ w.heap.size + 1 ≤ g := fun u h2 g hg => by
    have := hu u h2 g hg
    rw [World.size_alloc] at this
    exact this
  refine bodyPost_ret (v := .agg #[.int .i64 t1, .int .i64 t2, .int .i64 t3, .int .i64 t4]) ?_ rfl ⟨rfl, ⟨us, hr.touch tkE (fun m hm => ?_), fun u h2 g hg => (hu2 u h2 g hg).imp id (fun h => by omega)⟩, ((KTouch.of hB).trans tk).more tkE (by simp)⟩
  · simp [results, Tryz.results59, go_sem, v0, v1, v2, v3]
  · rw [List.mem_singleton] at hm
    subst hm
    refine ⟨hle, fun u h2 hg => ?_⟩
    rcases hu2 u h2 _ hg with h3 | h3
    · have := hold _ h3
      omega
    · omega
end Go.Proofs.YtajfgmlockjmhaiGreatDoor
namespace Go.Proofs.YtajfgmlockjmhaiGreatDoor
open Go.RowKit

/-- The document's kernel, made since w0. -/
structure DOne (w0 wr : World) (p : PD) (vc vs vw : Value) (k : KD) (a : KW) : Prop where
  R : RK wr w0.heap.size p vc vs vw k a
  ok : KOk p k
  since : Below w0.heap.size w0 wr
  pln : Pln w0 vc vs vw p
theorem DOne.all {w0 wr w' : World} {p : PD} {vc vs vw : Value} {k : KD} {a : KW} (h : DOne w0 wr p vc vs vw k a) (hb : Below wr.heap.size wr w') : DOne w0 w' p vc vs vw k a :=
  ⟨h.R.all hb, h.ok, h.since.trans (hb.mono h.since.size), h.pln⟩
/-- Blocks of the caller's own are written. -/
theorem DOne.frame {w0 wr w' : World} {p : PD} {vc vs vw : Value} {k : KD} {a : KW} (h : DOne w0 wr p vc vs vw k a) {M : List Nat} (ht : KTouch M wr w') (hM : ∀ m ∈ M, m ∉ KF a ∧ w0.heap.size ≤ m) : DOne w0 w' p vc vs vw k a :=
  ⟨h.R.frame ht (fun m hm => (hM m hm).1), h.ok, h.since.trans (ht.below (fun m hm => (hM m hm).2) h.since.size), h.pln⟩
/-- What came of a call on it. -/
structure DWent (w0 W w' : World) (p : PD) (vc vs vw : Value) (k' : KD) (a a' : KW) : Prop where
  one : DOne w0 w' p vc vs vw k' a'
  touch : KTouch a.m W w'
  new : ∀ g ∈ KF a', g ∈ KF a ∨ W.heap.size ≤ g
  kb : a'.kb = a.kb
theorem DWent.keep {w0 W w' : World} {p : PD} {vc vs vw : Value} {k' : KD} {a a' : KW} (h : DWent w0 W w' p vc vs vw k' a a') {b : Nat} (hb : b < W.heap.size) (hn : b ∉ KF a) : w'.heap[b]? = W.heap[b]? ∧ b ∉ KF a' := by
  refine ⟨h.touch.block b hb (fun hm => hn (KF.m b hm)), fun hm => ?_⟩
  rcases h.new b hm with h1 | h1
  · exact hn h1
  · omega
theorem d_tick {w0 W : World} {p : PD} {vc vs vw : Value} {k : KD} {a : KW} (hp : plchk p = 0) (ht : k.time < 100000000) (h : DOne w0 W p vc vs vw k a) :
    Calls Tryz.prog 59 #[.pointer (some ⟨a.kb, 0, none⟩)] W fun e w' => e = .returned (evA (tickK p p.spans k).2) ∧ ∃ a', DWent w0 W w' p vc vs vw (tickK p p.spans k).1 a a' := by
  obtain ⟨sa, sc, rfl⟩ := h.pln.spans.form
  refine (reftick_any p vc vw sa sc k a w0.heap.size W hp h.ok ht h.R w0 rfl h.since h.pln).mono ?_
  rintro e w' ⟨rfl, ⟨us, hR', hus⟩, tkr⟩
  exact ⟨rfl, { a with us := us }, ⟨hR', tick_ok hp h.ok, h.since.trans (tkr.below h.R.mge h.since.size), h.pln⟩, tkr, KF.us hus, rfl⟩
end Go.Proofs.YtajfgmlockjmhaiGreatDoor
namespace Go.Proofs.YtajfgmlockjmhaiGreatDoor
open Go.RowKit

theorem d_poke {w0 W : World} {p : PD} {vc vs vw : Value} {k : KD} {a : KW} (r c n : Int) (h : DOne w0 W p vc vs vw k a) :
    Calls Tryz.prog 28 #[.pointer (some ⟨a.kb, 0, none⟩), .int .i64 r, .int .i64 c, .int .i64 n] W fun e w' => e = .returned (.int .i64 (pokeN k r c n)) ∧ DWent w0 W w' p vc vs vw (pokeK k r c n) a a := by
  refine (refpoke_any p vc vs vw k a w0.heap.size r c n W h.R).mono ?_
  rintro e w' ⟨rfl, hR', tkr⟩
  exact ⟨rfl, ⟨hR', poke_ok h.ok r c n, h.since.trans (tkr.below h.R.mge h.since.size), h.pln⟩, tkr, fun g hg => Or.inl hg, rfl⟩
end Go.Proofs.YtajfgmlockjmhaiGreatDoor
namespace Go.Proofs.YtajfgmlockjmhaiGreatDoor
open Go.RowKit

set_option maxRecDepth 100000 in
set_option maxHeartbeats 8000000 in
theorem alike_any {G : World → Prop} {C : LogC G} (CS : LogState C) (CT : LogRd C 23 (fun d p => .int .i64 (d.k p).time)) {w0 w : World} {p : PD} {vc vs vw : Value} {d : LgD} {cb base : Nat} {F : List Nat} {a : KW} (hK : C.K w0 w p d cb F) (hok : LOk p d) (hp : plchk p = 0) (hR : RK w base p vc vs vw (d.k p) a) :
    Calls Tryz.prog 29 #[.pointer (some ⟨cb, 0, none⟩), .pointer (some ⟨a.kb, 0, none⟩), .int .i64 (p.code.length : Nat)] w fun e w' => e = .returned (.bool true) ∧ Below w.heap.size w w' := by
  have hkk : KOk p (d.k p) := redo_ok hp _
  have hrl := hkk.rl
  have hc5 := (plchk_zero hp).1
  have HST : Hid (∀ W r, Below w.heap.size w W → Calls Tryz.prog 31 #[.pointer (some ⟨cb, 0, none⟩), .int .i64 r] W fun e w' => e = .returned (.tuple #[stA (roomK (d.k p) r), wErr (errB (noRoom (d.k p) r))]) ∧ Below W.heap.size W w') := fun W r hb => CS r (C.frame hK (KTouch.of (M := []) hb) (by simp)) hok hp
  have HTM : Hid (∀ W, Below w.heap.size w W → Calls Tryz.prog 23 #[.pointer (some ⟨cb, 0, none⟩)] W fun e w' => e = .returned (.int .i64 (d.k p).time) ∧ Below W.heap.size W w') := fun W hb => CT (C.frame hK (KTouch.of (M := []) hb) (by simp)) hok hp
  have HR : Hid (RK w base p vc vs vw (d.k p) a) := hR
  have hN : p.code.length = (d.k p).rooms.length := hrl.symm
  rw [hN]
  rw [hN] at hc5
  clear hK hok hp hR hkk hrl hN
  generalize d.k p = k at *
  go_enter Tryz.func29, Tryz.ntmps29
  go_upto_region 2 with fail
  go_loopw [7] (fun s7 wr => ∃ i : Nat, i ≤ k.rooms.length ∧ s7 = .int .i64 i ∧ Below w.heap.size w wr) (fun s _ => k.rooms.length - (intOf s).toNat)
  case atStart => exact ⟨0, Nat.zero_le _, rfl, Below.refl _ _⟩
  case round =>
  obtain ⟨i, hi, rfl, hb⟩ := hrel
  by_cases hil : i < k.rooms.length
  case neg =>
    obtain rfl : i = k.rooms.length := by omega
    have hin : decide ((k.rooms.length : Int) < (k.rooms.length : Int)) = false := decide_eq_false (by omega)
    have hin2 : decide (k.rooms.length < k.rooms.length) = false := decide_eq_false (by omega)
    have bD : Below w.heap.size w wr.drew := hb.drew
    have q1 := HTM.out _ bD
    have HS : Hid (∀ W, Below w.heap.size w W → W.cell? ⟨a.kb, 6, none⟩ = some (.int .i64 k.time)) := fun W hb => (HR.out.all hb).c6
    have S0 := HS.out _ bD
    have heq : (k.time == k.time) = true := by simp
    go_upto_region 7 with fail
    go_region_held3 (fun W => W.cell? ⟨a.kb, 6, none⟩ = some (.int .i64 k.time))
      (first | exact S0 | exact S1 | go_keep)
      (first
        | (go_at_call 23; refine q1.mono ?_; rintro e w5 ⟨rfl, b5⟩; clear q1; have hb5 := bD.trans (b5.mono bD.size); have S1 := HS.out w5 hb5))
    all_goals (go_wp2_with fail; go_ret; exact ⟨by simp, hb5⟩)
  have hii : (i : Int) < (k.rooms.length : Int) := by omega
  obtain ⟨s, hs⟩ : ∃ s, k.rooms[i]? = some s := ⟨_, List.getElem?_eq_getElem hil⟩
  have hno : noRoom k (i : Int) = false := by
    unfold noRoom
    rw [Bool.or_eq_false_iff]
    exact ⟨decide_eq_false (by omega), decide_eq_false (by omega)⟩
  have hrk : roomK k (i : Int) = s := by
    unfold roomK
    rw [hno, if_neg (by decide), Int.toNat_natCast]
    simp [List.getD, hs]
  have q1 := HST.out wr i hb
  rw [hrk, hno, show wErr (errB false) = .nilIface from rfl] at q1
  unfold stA at q1
  have HCL : Hid (∀ W, Below w.heap.size w W → W.cell? ⟨a.kb, 4, none⟩ = some (.slice (some ⟨a.rb, 0, none⟩) k.rooms.length a.rcap) ∧ StC W a.rb (i * 8) s) := fun W hb => ⟨(HR.out.all hb).c4, (HR.out.all hb).rooms i s hs⟩
  have hgd := guardSt
  have hnq := neq_st s.p (s.c 0) (s.c 1) (s.c 2) (s.c 3) (s.c 4) (s.c 5) s.f
  clear hs hno hrk
  go_upto_region 5 with (go_at_call 31; refine q1.mono ?_; rintro e w5 ⟨rfl, b5⟩; clear q1)
  have hb5 := hb.trans (b5.mono hb.size)
  have hA : Below w5.heap.size w5 (w5.alloc (.cells #[.int .i64 s.p, .int .i64 (s.c 0), .int .i64 (s.c 1), .int .i64 (s.c 2), .int .i64 (s.c 3), .int .i64 (s.c 4), .int .i64 (s.c 5), .bool s.f] 73)) := (Below.refl _ _).alloc (Nat.le_refl _) _
  have hB : StB (w5.alloc (.cells #[.int .i64 s.p, .int .i64 (s.c 0), .int .i64 (s.c 1), .int .i64 (s.c 2), .int .i64 (s.c 3), .int .i64 (s.c 4), .int .i64 (s.c 5), .bool s.f] 73)) w5.heap.size s := World.alloc_heap_new _ _
  have hb6 := hb5.trans (hA.mono hb5.size)
  generalize w5.alloc (.cells #[.int .i64 s.p, .int .i64 (s.c 0), .int .i64 (s.c 1), .int .i64 (s.c 2), .int .i64 (s.c 3), .int .i64 (s.c 4), .int .i64 (s.c 5), .bool s.f] 73) = w6 at hA hB hb6 ⊢
  obtain ⟨n0, n1, n2, n3, n4, n5, n6, n7⟩ := hB.cs
  simp only [Nat.zero_add] at n1 n2 n3 n4 n5 n6 n7
  obtain ⟨c4, s0, s1, s2, s3, s4, s5, s6, s7⟩ := HCL.out w6 hb6
  go_cut [33] from 21 to 32 (fun s33 wx => s33 = .bool false ∧ Below w6.heap.size w6 wx)
  case first =>
    go_quiet (fail)
    go_wp2_with fail
    go_meet
    case rel => exact ⟨rfl, below_dN (Below.refl _ _) _⟩
  case rest =>
  obtain ⟨rfl, hb7⟩ := hcut
  clear n0 n1 n2 n3 n4 n5 n6 n7 c4 s0 s1 s2 s3 s4 s5 s6 s7 hB hnq
  go_step
  go_wp2_with fail
  go_roundw
  case rel => exact ⟨i + 1, by omega, by go_num, hb6.trans (hb7.mono hb6.size)⟩
  case measure => simp [intOf]; omega
end Go.Proofs.YtajfgmlockjmhaiGreatDoor
namespace Go.Proofs.YtajfgmlockjmhaiGreatDoor
open Go.RowKit

/-- A step as it stands in the law. -/
def stepOf (x : List Int) : LStp := if x.length = 1 then .go (x.getD 0 0).toNat else .poke (x.getD 0 0) (x.getD 1 0) (x.getD 2 0)
def stepsOk (ll : List (List Int)) : Prop := ∀ x ∈ ll, x.length = 1 → 0 ≤ x.getD 0 0 ∧ x.getD 0 0 ≤ 100
theorem take_snoc {α : Type} {l : List α} {j : Nat} {x : α} (h : l[j]? = some x) : l.take (j + 1) = l.take j ++ [x] := by
  obtain ⟨hk, rfl⟩ := List.getElem?_eq_some_iff.1 h
  rw [List.take_succ_eq_append_getElem hk]
theorem redo_next {p : PD} {ll : List (List Int)} {i : Nat} {x : List Int} (h : ll[i]? = some x) : redoK p ((ll.take (i + 1)).map stepOf) = doK p (redoK p ((ll.take i).map stepOf)) (stepOf x) := by
  rw [take_snoc h, List.map_append, List.map_singleton, redoK_append]
theorem redo_le {p : PD} {ll : List (List Int)} (i : Nat) (h : (redoK p (ll.map stepOf)).time ≤ 2000) : (redoK p ((ll.take i).map stepOf)).time ≤ 2000 := by
  rw [List.map_take]
  exact Int.le_trans (redo_time p _ i) h
set_option maxRecDepth 100000 in
set_option maxHeartbeats 8000000 in
theorem redo_any (p : PD) (vc vs vw vl : Value) (ll : List (List Int)) (w : World) (hp : plchk p = 0) (hP : Pln w vc vs vw p) (hT : Sts w vl ll) (hs : stepsOk ll) (ht : (redoK p (ll.map stepOf)).time ≤ 2000) (hl : ll.length ≤ 1000) :
    Calls Tryz.prog 27 #[plV vc p.ticks vs vw, vl] w fun e w' => ∃ a : KW, e = .returned (.pointer (some ⟨a.kb, 0, none⟩)) ∧ RK w' w.heap.size p vc vs vw (redoK p (ll.map stepOf)) a ∧ Below w.heap.size w w' := by
  obtain ⟨ta, tc, rfl⟩ := hT.form
  have hx0 := Bx.first w vc p.ticks vs vw
  have qN := newkernel_any p vc vs vw _ hp (hP.all hx0.below)
  have HT : Hid (Sts w (.slice ta ll.length tc) ll) := hT
  have HP : Hid (Pln w vc vs vw p) := hP
  have HZ : Hid (plchk p = 0) := hp
  have HLe : Hid (∀ i, (redoK p ((ll.take i).map stepOf)).time ≤ 2000) := fun i => redo_le i ht
  have HS : Hid (stepsOk ll) := hs
  have k0 := hx0.c0
  have k1 := hx0.c1
  have k2 := hx0.c2
  have k3 := hx0.c3
  unfold plV at qN ⊢
  have hAw : Below w.heap.size w (w.alloc (.cells #[vc, .int .i64 p.ticks, vs, vw] 26)) := hx0.below
  generalize hW1 : w.alloc (.cells #[vc, .int .i64 p.ticks, vs, vw] 26) = W1 at *
  clear hT hP hp hs ht hx0
  go_enter Tryz.func27, Tryz.ntmps27
  go_upto_region 1 with fail
  clear hW1
  go_upto_region 3 with (go_at_call 58; refine qN.mono ?_; rintro e w2 ⟨a, rfl, hlr, hR, b2⟩; clear qN)
  have hD0 : DOne W1 w2 p vc vs vw (newK p) a := ⟨hR, new_ok HZ.out, b2, HP.out.all hAw⟩
  have hsz : w.heap.size ≤ W1.heap.size := hAw.size
  clear hlr hR b2 k0 k1 k2 k3
  go_loopw [6] (fun s6 wr => ∃ (i : Nat) (a' : KW), i ≤ ll.length ∧ s6 = .int .i64 i ∧ a'.kb = a.kb ∧ DOne W1 wr p vc vs vw (redoK p ((ll.take i).map stepOf)) a') (fun s _ => ll.length - (intOf s).toNat)
  case atStart => exact ⟨0, a, Nat.zero_le _, rfl, rfl, hD0⟩
  case round =>
  clear hD0
  obtain ⟨i, a1, hi, rfl, hak, hD⟩ := hrel
  by_cases hil : i < ll.length
  case neg =>
    obtain rfl : i = ll.length := by omega
    have hin : decide ((ll.length : Int) < (ll.length : Int)) = false := decide_eq_false (by omega)
    have HD : Hid (DOne W1 wr p vc vs vw (redoK p (ll.map stepOf)) a1) := by
      rw [List.take_length] at hD
      exact hD
    have HAK : Hid (a1.kb = a.kb) := hak
    clear hD hak
    go_wp2
    go_ret
    exact ⟨a1, by rw [HAK.out]; rfl, HD.out.R.lower hsz, hAw.trans (HD.out.since.mono hsz)⟩
  have hii : (i : Int) < (ll.length : Int) := by omega
  rename World => wA
  obtain ⟨tb, tf, ua, uc, l, rfl, htlt, hll, ht0, hstp⟩ := HT.out.at hil
  have HTC : Hid (∀ W, Below w.heap.size w W → W.cell? ⟨tb, tf + i, none⟩ = some (.slice ua l.length uc)) := fun W hb => (hb.cell (p := ⟨tb, _, none⟩) htlt).trans ht0
  have HSP : Hid (Stp w (.slice ua l.length uc) l) := hstp
  have HNX : Hid (redoK p ((ll.take (i + 1)).map stepOf) = doK p (redoK p ((ll.take i).map stepOf)) (stepOf l)) := redo_next hll
  have HSL : Hid (l.length = 1 → 0 ≤ l.getD 0 0 ∧ l.getD 0 0 ≤ 100) := HS.out l (List.mem_of_getElem? hll)
  have htk := HLe.out i
  clear htlt ht0 hstp hll
  generalize redoK p ((ll.take i).map stepOf) = k at *
  have hvb : wA.heap.size ∉ KF a1 := fun hm => by have := hD.R.flt _ hm; omega
  go_upto_region 6 with fail
  have bAB : Below wA.heap.size wA (wA.alloc (.cells #[.int .i64 0, .int .i64 0, .int .i64 0] 60)) := (Below.refl _ _).alloc (Nat.le_refl _) _
  have hv0 : V3 (wA.alloc (.cells #[.int .i64 0, .int .i64 0, .int .i64 0] 60)) wA.heap.size (got3 l 0) := World.alloc_heap_new wA _
  have hw1A : W1.heap.size ≤ wA.heap.size := hD.since.size
  replace hD := hD.all bAB
  clear bAB
  generalize wA.alloc (.cells #[.int .i64 0, .int .i64 0, .int .i64 0] 60) = wB at hv0 hD ⊢
  generalize wA.heap.size = vb at hv0 hvb hw1A ⊢
  go_upto_region 7 with fail
  go_loopw [8] (fun s wr => ∃ j : Nat, j ≤ 3 ∧ s = .int .i64 j ∧ V3 wr vb (got3 l j) ∧ KTouch [vb] wB wr) (fun s _ => 3 - (intOf s).toNat)
  case atStart => exact ⟨0, Nat.zero_le _, rfl, hv0, KTouch.refl _ _⟩
  case round =>
  clear hv0
  obtain ⟨j, hj, rfl, hv, tk⟩ := hrel
  have hbB : Below w.heap.size w wB := hAw.trans (hD.since.mono hsz)
  have hbw : Below w.heap.size w wr := hbB.trans (tk.below (by simp; omega) hbB.size)
  have hcl := HTC.out wr hbw
  go_upto_region 7 with fail
  go_cut [28] from 18 to 27 (fun s28 wx => s28 = .bool (decide (j < min l.length 3)) ∧ wx = wr)
  case first =>
    by_cases h1 : j < l.length
    · have h1' : (j : Int) < (l.length : Int) := by omega
      by_cases h2 : j < 3
      · have h2' : (j : Int) < 3 := by omega
        have HX : Hid (decide (j < min l.length 3) = true) := decide_eq_true (by omega)
        go_wp2_with fail
        go_meet
        case rel => exact ⟨by rw [HX.out], rfl⟩
      · obtain rfl : j = 3 := by omega
        rw [show ((3 : Nat) : Int) = 3 from rfl] at h1'
        have HX : Hid (decide (3 < min l.length 3) = false) := decide_eq_false (by omega)
        go_wp2_with fail
        go_meet
        case rel => exact ⟨by rw [HX.out], rfl⟩
    · have h1' : decide ((j : Int) < (l.length : Int)) = false := decide_eq_false (by omega)
      have h1n : decide (j < l.length) = false := decide_eq_false h1
      have HX : Hid (decide (j < min l.length 3) = false) := decide_eq_false (by omega)
      go_wp2_with fail
      go_meet
      case rel => exact ⟨by rw [HX.out], rfl⟩
  case rest =>
  obtain ⟨rfl, hwc⟩ := hcut
  rw [hwc]
  clear hwc wc
  by_cases hjm : j < min l.length 3
  case pos =>
    have hjl : j < l.length := by omega
    have hj4 : j < 3 := by omega
    have hji : (j : Int) < (l.length : Int) := by omega
    have hj4i : (j : Int) < 3 := by omega
    have hd : decide (j < min l.length 3) = true := decide_eq_true hjm
    rw [hd]
    obtain ⟨ub, uo, x, rfl, hxc, hlx⟩ := HSP.out.at hbw hjl
    have HLX : Hid (l[j]? = some x) := hlx
    have hcv := hv.at hj4
    have hfv := hv.fz j
    have HV : Hid (V3 wr vb (got3 l j)) := hv
    clear hlx hv hd hbw hbB
    go_wp2
    go_roundw
    case rel => exact ⟨j + 1, by omega, by go_num, (HV.out.set hj4 x).eq (fun q _ => got3_next HLX.out q), tk.trans (KTouch.set _ (by simp) _ _)⟩
    case measure => simp [intOf]; omega
  have hd : decide (j < min l.length 3) = false := decide_eq_false hjm
  rw [hd]
  replace hv := hv.eq (got3_end hjm)
  replace hD := hD.frame tk (fun m hm => by rw [List.mem_singleton] at hm; subst hm; exact ⟨hvb, hw1A⟩)
  clear tk hbB hj hjm hd
  rename World => wV
  obtain ⟨y0, y1, y2⟩ := hv.cs
  by_cases hl1 : l.length = 1
  case neg =>
    have hne : ((l.length : Int) != 1) = true := bne_iff_ne.2 (by omega)
    have hne2 : (l.length == 1) = false := beq_eq_false_iff_ne.2 hl1
    have hne3 : (l.length != 1) = true := bne_iff_ne.2 hl1
    have HST : Hid (doK p k (stepOf l) = pokeK k (l.getD 0 0) (l.getD 1 0) (l.getD 2 0)) := by
      show _ = _
      unfold stepOf
      rw [if_neg hl1]
      rfl
    have q1 := d_poke (l.getD 0 0) (l.getD 1 0) (l.getD 2 0) hD
    rw [hak] at q1
    have HAK : Hid (a1.kb = a.kb) := hak
    generalize l.getD 0 0 = v0 at *
    generalize l.getD 1 0 = v1 at *
    generalize l.getD 2 0 = v2 at *
    clear hD hv hak HSL
    go_wp2_with (go_at_call 28; refine q1.mono ?_; rintro e w5 ⟨rfl, hW⟩; clear q1)
    go_roundw
    case rel => exact ⟨i + 1, a1, by omega, by go_num, HAK.out, by rw [HNX.out, HST.out]; exact hW.one⟩
    case measure => simp [intOf]; omega
  have hne : ((l.length : Int) != 1) = false := by rw [hl1]; rfl
  have hne2 : (l.length == 1) = true := beq_iff_eq.2 hl1
  have hne3 : (l.length != 1) = false := by rw [hl1]; rfl
  obtain ⟨hn0, hn1⟩ := HSL.out hl1
  obtain ⟨N, hN⟩ : ∃ N : Nat, l.getD 0 0 = N := ⟨(l.getD 0 0).toNat, by omega⟩
  have HST : Hid (doK p k (stepOf l) = ticksK p N k) := by
    show _ = _
    unfold stepOf
    rw [if_pos hl1, hN, Int.toNat_natCast]
    rfl
  have hN1 : N ≤ 100 := by omega
  have HV : Hid (V3 wV vb (fun q => l.getD q 0)) := hv
  rw [hN] at y0
  have HL0 : Hid (l.getD 0 0 = N) := hN
  have hvlt := hv.lt
  have HL1 : Hid (l.length = 1) := hl1
  clear hv hn0 hn1 HSL hN y1 y2 hl1
  go_upto_region 13 with fail
  go_loopw [9] (fun s9 wr => ∃ (j : Nat) (a' : KW), j ≤ N ∧ s9 = .int .i64 j ∧ a'.kb = a.kb ∧ vb ∉ KF a' ∧ wr.heap[vb]? = wV.heap[vb]? ∧ DOne W1 wr p vc vs vw (ticksK p j k) a') (fun s _ => N - (intOf s).toNat)
  case atStart => exact ⟨0, a1, Nat.zero_le _, rfl, hak, hvb, rfl, hD⟩
  case round =>
  clear hD hak y0 hcl hbw
  obtain ⟨j, a2, hj, rfl, hak2, hvb2, hvk, hD2⟩ := hrel
  have y0 : wr.cell? ⟨vb, 0, none⟩ = some (.int .i64 N) := by
    have := (HV.out.cs).1
    rw [HL0.out] at this
    exact (World.cell?_of_block (w := wV) (a := ⟨vb, 0, none⟩) hvk).trans this
  have hvl2 : vb < wr.heap.size := wlt y0
  by_cases hjn : j < N
  case pos =>
    have hji : (j : Int) < (N : Int) := by omega
    have q1 := d_tick HZ.out (by rw [ticksK_time]; omega) hD2
    rw [hak2] at q1
    unfold evA at q1
    have HAK : Hid (a2.kb = a.kb) := hak2
    have HKP : Hid (∀ w' a', DWent W1 wr w' p vc vs vw (tickK p p.spans (ticksK p j k)).1 a2 a' → a'.kb = a.kb ∧ vb ∉ KF a' ∧ w'.heap[vb]? = wV.heap[vb]? ∧ DOne W1 w' p vc vs vw (ticksK p (j + 1) k) a') := fun w' a' h => ⟨h.kb.trans hak2, (h.keep hvl2 hvb2).2, (h.keep hvl2 hvb2).1.trans hvk, h.one⟩
    generalize (tickK p p.spans (ticksK p j k)).1 = kk at q1 HKP
    generalize (tickK p p.spans (ticksK p j k)).2.1 = t1 at q1
    generalize (tickK p p.spans (ticksK p j k)).2.2.1 = t2 at q1
    generalize (tickK p p.spans (ticksK p j k)).2.2.2.1 = t3 at q1
    generalize (tickK p p.spans (ticksK p j k)).2.2.2.2 = t4 at q1
    clear hD2 hak2 hvb2 hvk
    go_wp2_with (go_at_call 59; refine q1.mono ?_; rintro e w6 ⟨rfl, a3, hW⟩; clear q1)
    obtain ⟨z1, z2, z3, z4⟩ := HKP.out w6 a3 hW
    have HZZ : Hid (a3.kb = a.kb ∧ vb ∉ KF a3 ∧ w6.heap[vb]? = wV.heap[vb]? ∧ DOne W1 w6 p vc vs vw (ticksK p (j + 1) k) a3) := ⟨z1, z2, z3, z4⟩
    clear z1 z2 z3 z4 hW
    go_roundw
    case rel => exact ⟨j + 1, a3, by omega, by go_num, HZZ.out⟩
    case measure => simp [intOf]; omega
  obtain rfl : j = N := by omega
  have hji : decide ((j : Int) < (j : Int)) = false := decide_eq_false (by omega)
  have HDN : Hid (DOne W1 wr p vc vs vw (ticksK p j k) a2) := hD2
  have HAK : Hid (a2.kb = a.kb) := hak2
  clear hD2 hak2 hvb2 hvk
  go_wp2_with fail
  go_roundw
  case rel => exact ⟨i + 1, a2, by omega, by go_num, HAK.out, by rw [HNX.out, HST.out]; exact HDN.out⟩
  case measure => simp [intOf]; omega
end Go.Proofs.YtajfgmlockjmhaiGreatDoor
namespace Go.Proofs.YtajfgmlockjmhaiGreatDoor
open Go.RowKit

/-- The steps that were done, as a row: its elements are rows that came in. -/
structure DR (w : World) (B : Nat) (wr : World) (dn : List (List Int)) (us : List Value) (vd : Value) : Prop where
  len : us.length = dn.length
  good : stepsOk dn
  rows : ∀ (i : Nat) u x, us[i]? = some u → dn[i]? = some x → Stp w u x
  row : wr.ownsRow B 58 1 vd us.length us
/-- The marks, as a row. -/
def MR (B : Nat) (wr : World) (rs : List (LStp × Nat)) (vm : Value) : Prop := wr.ownsRow B 3 1 vm (rs.length + 1) (ints (marksR rs))
theorem DR.first (w : World) (B : Nat) (wr : World) : DR w B wr [] [] (.slice none 0 0) :=
  ⟨rfl, fun x hx => (by cases hx), fun i u x hi => (by simp at hi), World.ownsRow_nil _ _ _ _⟩
theorem DR.touch {w wr w' : World} {B : Nat} {dn : List (List Int)} {us : List Value} {vd : Value} (h : DR w B wr dn us vd) {M : List Nat} (ht : KTouch M wr w') (hM : ∀ g, vd.ownBlock = some g → g ∉ M) : DR w B w' dn us vd :=
  ⟨h.len, h.good, h.rows, own_block h.row (fun k hk => ht.block k (h.row.lt k hk).2 (hM k hk))⟩
theorem DR.all {w wr w' : World} {B : Nat} {dn : List (List Int)} {us : List Value} {vd : Value} (h : DR w B wr dn us vd) (hb : Below wr.heap.size wr w') : DR w B w' dn us vd := h.touch (M := []) (KTouch.of hb) (fun _ _ => by simp)
theorem MR.touch {wr w' : World} {B : Nat} {rs : List (LStp × Nat)} {vm : Value} (h : MR B wr rs vm) {M : List Nat} (ht : KTouch M wr w') (hM : ∀ g, vm.ownBlock = some g → g ∉ M) : MR B w' rs vm :=
  own_block h (fun k hk => ht.block k (World.ownsRow.lt h k hk).2 (hM k hk))
theorem MR.all {wr w' : World} {B : Nat} {rs : List (LStp × Nat)} {vm : Value} (h : MR B wr rs vm) (hb : Below wr.heap.size wr w') : MR B w' rs vm := MR.touch h (M := []) (KTouch.of hb) (fun _ _ => by simp)
/-- It can be read. -/
theorem DR.sts {w wr : World} {B : Nat} {dn : List (List Int)} {us : List Value} {vd : Value} (h : DR w B wr dn us vd) (hb : Below w.heap.size w wr) : Sts wr vd dn := by
  have hlt := h.row.lt
  rcases row_form h.row with ⟨rfl, h0⟩ | ⟨g, cap, rfl⟩
  · exact Or.inl ⟨List.eq_nil_of_length_eq_zero (by rw [← h.len]; exact h0), _, _, rfl⟩
  · refine Or.inr ⟨g, 0, cap, by rw [h.len], (hlt g rfl).2, fun i x hi => ?_⟩
    have hil : i < us.length := by rw [h.len]; exact (List.getElem?_eq_some_iff.1 hi).1
    have hu : us[i]? = some us[i] := List.getElem?_eq_getElem hil
    refine ⟨us[i], ?_, (h.rows i _ x hu hi).every hb⟩
    have := (own_cap h.row).2.2.2.2.1 i _ hu
    rw [Nat.zero_add]
    exact this
/-- One step more. -/
theorem DR.more {w wr wa : World} {B : Nat} {dn : List (List Int)} {us : List Value} {vd vd' u : Value} {x : List Int} (h : DR w B wr dn us vd) (hx : x.length = 1 → 0 ≤ x.getD 0 0 ∧ x.getD 0 0 ≤ 100) (hu : Stp w u x) (hown : wa.ownsRow B 58 1 vd' (us.length + 1) (us ++ [u])) : DR w B wa (dn ++ [x]) (us ++ [u]) vd' := by
  refine ⟨by simp [h.len], fun y hy => ?_, fun i v y hi hy => ?_, by rw [List.length_append]; exact hown⟩
  · rcases List.mem_append.1 hy with hy | hy
    · exact h.good y hy
    · rw [List.mem_singleton] at hy
      subst hy
      exact hx
  · by_cases hil : i < us.length
    · rw [List.getElem?_append_left hil] at hi
      rw [List.getElem?_append_left (by rw [← h.len]; exact hil)] at hy
      exact h.rows i v y hi hy
    · have hlt := (List.getElem?_eq_some_iff.1 hi).1
      rw [List.length_append, List.length_singleton] at hlt
      obtain rfl : i = us.length := by omega
      rw [List.getElem?_append_right (Nat.le_refl _), Nat.sub_self] at hi
      rw [List.getElem?_append_right (by rw [h.len]; exact Nat.le_refl _), h.len, Nat.sub_self] at hy
      simp only [List.getElem?_cons_zero, Option.some.injEq] at hi hy
      subst hi
      subst hy
      exact hu
/-- Cut behind so many. -/
theorem DR.cut {w wr : World} {B : Nat} {dn : List (List Int)} {us : List Value} {vd : Value} (h : DR w B wr dn us vd) {n : Nat} (hn : n ≤ dn.length) : (vd = .slice none 0 0 ∧ n = 0 ∧ dn = []) ∨ ∃ g cap, vd = .slice (some ⟨g, 0, none⟩) us.length cap ∧ us.length ≤ cap ∧ DR w B wr (dn.take n) (us.take n) (.slice (some ⟨g, 0, none⟩) n cap) := by
  rcases row_form h.row with ⟨rfl, h0⟩ | ⟨g, cap, rfl⟩
  · have hd : dn.length = 0 := by rw [← h.len]; exact h0
    exact Or.inl ⟨rfl, by omega, List.eq_nil_of_length_eq_zero hd⟩
  · refine Or.inr ⟨g, cap, rfl, (own_cap h.row).2.2.1, ⟨by simp [h.len], fun x hx => h.good x (List.mem_of_mem_take hx), fun i u x hu hx => ?_, ?_⟩⟩
    · by_cases hi : i < n
      · rw [List.getElem?_take_of_lt hi] at hu hx
        exact h.rows i u x hu hx
      · rw [List.getElem?_eq_none (by rw [List.length_take]; omega)] at hu
        cases hu
    · have := own_cut h.row (k := n) (by rw [h.len]; exact hn)
      rw [List.length_take, Nat.min_eq_left (by rw [h.len]; exact hn)]
      exact this
theorem MR.form {wr : World} {B : Nat} {rs : List (LStp × Nat)} {vm : Value} (h : MR B wr rs vm) : ∃ g cap, vm = .slice (some ⟨g, 0, none⟩) (rs.length + 1) cap ∧ rs.length + 1 ≤ cap ∧ B ≤ g ∧ g < wr.heap.size ∧ ∀ i, i ≤ rs.length → wr.cell? ⟨g, i, none⟩ = some (.int .i64 (sizeR (rs.take i) : Nat)) := by
  have h' : wr.ownsRow B 3 1 vm (rs.length + 1) (ints (marksR rs)) := h
  rcases row_form h' with ⟨_, h0⟩ | ⟨g, cap, rfl⟩
  · omega
  · obtain ⟨q1, q2, q3, _, q5, _⟩ := own_cap h'
    exact ⟨g, cap, rfl, q3, q1, q2, fun i hi => q5 i _ (ints_at (marksR_at hi))⟩
theorem MR.cut {wr : World} {B : Nat} {rs : List (LStp × Nat)} {g cap : Nat} (h : MR B wr rs (.slice (some ⟨g, 0, none⟩) (rs.length + 1) cap)) {n : Nat} (hn : n ≤ rs.length) : MR B wr (rs.take n) (.slice (some ⟨g, 0, none⟩) (n + 1) cap) := by
  have h' : wr.ownsRow B 3 1 (.slice (some ⟨g, 0, none⟩) (rs.length + 1) cap) (rs.length + 1) (ints (marksR rs)) := h
  have := own_cut h' (k := n + 1) (by omega)
  unfold MR
  rw [List.length_take, Nat.min_eq_left hn, ← marksR_take hn]
  unfold ints at *
  rw [List.map_take]
  exact this
theorem MR.more {wa : World} {B : Nat} {rs : List (LStp × Nat)} {vm' : Value} {r : LStp × Nat} (hown : wa.ownsRow B 3 1 vm' (rs.length + 1 + 1) (ints (marksR rs ++ [((sizeR rs + r.2 : Nat) : Int)]))) : MR B wa (rs ++ [r]) vm' := by
  unfold MR
  rw [marksR_snoc, List.length_append, List.length_singleton]
  exact hown
end Go.Proofs.YtajfgmlockjmhaiGreatDoor
namespace Go.Proofs.YtajfgmlockjmhaiGreatDoor
open Go.RowKit

/-- What the document says of so many ticks. -/
def gdE (t v : Int) : Int := if v < 0 ∨ 100 < v then 1 else if 2000 < t + v then 4 else 0
/-- What came of a step: the document's error, the log's error, the log ahead and behind. -/
structure Stepd (p : PD) (d d' : LgD) (x : List Int) (e er : Int) : Prop where
  ok : LOk p d'
  err : er = 6 ∨ er = e
  yes : er = 0 → ∃ sz, 2 ≤ sz ∧ sz ≤ 100000 ∧ d'.recs = d.recs ++ [(stepOf x, sz)] ∧ d'.bytes = d.bytes + sz ∧ d.bytes = sizeR d.recs ∧ (x.length = 1 → 0 ≤ x.getD 0 0 ∧ x.getD 0 0 ≤ 100)
  no : er ≠ 0 → d'.recs = d.recs
theorem put_step {p : PD} {d : LgD} {s : LStp} {sz : Nat} (h : LOk p d) (hs : d.stop = false) : (d.last = true → (putR d s sz).recs = d.recs) ∧ (d.last = false → (putR d s sz).recs = d.recs ++ [(s, sz)] ∧ (putR d s sz).bytes = d.bytes + sz ∧ d.bytes = sizeR d.recs) := by
  have h0 := h.part hs
  unfold putR
  refine ⟨fun hl => by rw [if_pos hl], fun hl => ?_⟩
  rw [if_neg (by rw [hl]; decide)]
  refine ⟨rfl, ?_, ?_⟩
  · show sizeR (d.recs ++ [(s, sz)]) + d.part = sizeR d.recs + d.part + sz
    rw [sizeR_append]
    simp [sizeR]
    omega
  · show sizeR d.recs + d.part = _
    omega
theorem go_step {p : PD} {d : LgD} {x : List Int} {sz : Nat} (h : LOk p d) (h2 : 2 ≤ sz) (h3 : sz ≤ 100000) (hn : d.recs.length < 40) (hx : x.length = 1) : Stepd p d (goL p d (x.getD 0 0) sz) x (gdE (d.k p).time (x.getD 0 0)) (goEnd p d (x.getD 0 0)) := by
  generalize hv : x.getD 0 0 = v
  have hst : stepOf x = .go v.toNat := by
    unfold stepOf
    rw [if_pos hx, hv]
  by_cases he : goE p d v = 0
  · obtain ⟨hs, a0, a1, a2⟩ := goE_zero he
    have hgd : gdE (d.k p).time v = 0 := by
      unfold gdE
      rw [if_neg (by omega), if_neg (by omega)]
    have hL : goL p d v sz = putR d (.go v.toNat) sz := by
      unfold goL
      rw [if_pos he]
    obtain ⟨q1, q2⟩ := put_step (s := .go v.toNat) (sz := sz) h hs
    cases hl : d.last with
    | true =>
      have hE : goEnd p d v = 6 := by
        unfold goEnd
        rw [if_pos he, if_pos hl]
      refine ⟨goL_ok h h2 h3 hn, Or.inl hE, fun h0 => by omega, fun _ => by rw [hL]; exact q1 hl⟩
    | false =>
      have hE : goEnd p d v = 0 := by
        unfold goEnd
        rw [if_pos he, if_neg (by rw [hl]; decide)]
      refine ⟨goL_ok h h2 h3 hn, Or.inr (by rw [hE, hgd]), fun _ => ⟨sz, h2, h3, ?_, ?_, (q2 hl).2.2, fun _ => by rw [hv]; exact ⟨a0, a1⟩⟩, fun hn => absurd hE hn⟩
      · rw [hL, hst]
        exact (q2 hl).1
      · rw [hL]
        exact (q2 hl).2.1
  · have hE : goEnd p d v = goE p d v := by
      unfold goEnd
      rw [if_neg he]
    have hL : goL p d v sz = d := by
      unfold goL
      rw [if_neg he]
    refine ⟨by rw [hL]; exact h, ?_, fun h0 => absurd (hE.symm.trans h0) he, fun _ => by rw [hL]⟩
    rw [hE]
    unfold goE gdE
    by_cases hs : d.stop = true
    · rw [if_pos hs]
      exact Or.inl rfl
    · rw [if_neg hs]
      exact Or.inr rfl
theorem poke_step {p : PD} {d : LgD} {x : List Int} {sz : Nat} (h : LOk p d) (h2 : 2 ≤ sz) (h3 : sz ≤ 100000) (hn : d.recs.length < 40) (hx : x.length ≠ 1) : Stepd p d (lpL p d (x.getD 0 0) (x.getD 1 0) (x.getD 2 0) sz) x (pokeN (d.k p) (x.getD 0 0) (x.getD 1 0) (x.getD 2 0)) (lpEnd p d (x.getD 0 0) (x.getD 1 0) (x.getD 2 0)) := by
  have hst : stepOf x = .poke (x.getD 0 0) (x.getD 1 0) (x.getD 2 0) := by
    unfold stepOf
    rw [if_neg hx]
  generalize x.getD 0 0 = r at *
  generalize x.getD 1 0 = c at *
  generalize x.getD 2 0 = n at *
  by_cases he : lpE p d r c n = 0
  · obtain ⟨hs, hpn⟩ := lpE_zero he
    have hL : lpL p d r c n sz = putR d (.poke r c n) sz := by
      unfold lpL
      rw [if_pos he]
    obtain ⟨q1, q2⟩ := put_step (s := .poke r c n) (sz := sz) h hs
    cases hl : d.last with
    | true =>
      have hE : lpEnd p d r c n = 6 := by
        unfold lpEnd
        rw [if_pos he, if_pos hl]
      refine ⟨lpL_ok h h2 h3 hn, Or.inl hE, fun h0 => by omega, fun _ => by rw [hL]; exact q1 hl⟩
    | false =>
      have hE : lpEnd p d r c n = 0 := by
        unfold lpEnd
        rw [if_pos he, if_neg (by rw [hl]; decide)]
      refine ⟨lpL_ok h h2 h3 hn, Or.inr (by rw [hE, hpn]), fun _ => ⟨sz, h2, h3, ?_, ?_, (q2 hl).2.2, fun h1 => absurd h1 hx⟩, fun hn => absurd hE hn⟩
      · rw [hL, hst]
        exact (q2 hl).1
      · rw [hL]
        exact (q2 hl).2.1
  · have hE : lpEnd p d r c n = lpE p d r c n := by
      unfold lpEnd
      rw [if_neg he]
    have hL : lpL p d r c n sz = d := by
      unfold lpL
      rw [if_neg he]
    refine ⟨by rw [hL]; exact h, ?_, fun h0 => absurd (hE.symm.trans h0) he, fun _ => by rw [hL]⟩
    rw [hE]
    unfold lpE
    by_cases hs : d.stop = true
    · rw [if_pos hs]
      exact Or.inl rfl
    · rw [if_neg hs]
      exact Or.inr rfl
theorem sync_recs (d : LgD) : (syncL d).recs = d.recs := by
  unfold syncL
  split
  · rfl
  · split <;> rfl
theorem sync_safe {d : LgD} (h : syncE d = 0) : (syncL d).safe = (syncL d).bytes := by
  unfold syncE at h
  split at h
  · cases h
  · rename_i hn
    have h1 : ¬ d.stop = true := fun e => hn (Or.inl e)
    have h2 : ¬ d.last = true := fun e => hn (Or.inr e)
    unfold syncL
    rw [if_neg h1, if_neg h2]
    rfl
theorem syncE_or (d : LgD) : syncE d = 0 ∨ syncE d = 6 := by
  unfold syncE
  split
  · exact Or.inr rfl
  · exact Or.inl rfl
/-- The law's own log: what was safe is kept. -/
theorem lk_fact {G : World → Prop} (C : LogC G) (CS : LogSync C) (CC : LogCrash C) (CT : LogRd C 23 (fun d p => .int .i64 (d.k p).time)) (CB : LogRd C 25 (fun d _ => .int .i64 (d.bytes : Nat))) (CA : LogRd C 24 (fun d _ => .int .i64 (d.safe : Nat))) {w0 W : World} {cb : Nat} {F : List Nat} (hG : G w0) (hK : C.K w0 W toyS newL cb F) :
    Calls Tryz.prog 19 #[.pointer (some ⟨cb, 0, none⟩), .int .i64 5] W fun e w1 => e = .returned .nilIface ∧
      Calls Tryz.prog 20 #[.pointer (some ⟨cb, 0, none⟩)] w1 fun e w2 => e = .returned .nilIface ∧
        Calls Tryz.prog 19 #[.pointer (some ⟨cb, 0, none⟩), .int .i64 7] w2 fun e w3 => e = .returned .nilIface ∧
          Calls Tryz.prog 22 #[.pointer (some ⟨cb, 0, none⟩), .int .i64 0] w3 fun e w4 => (∃ v, e = .returned v) ∧ Below w0.heap.size w0 w4 ∧ ∃ X : Nat,
            (∀ W, Below w4.heap.size w4 W → Calls Tryz.prog 23 #[.pointer (some ⟨cb, 0, none⟩)] W fun e w' => e = .returned (.int .i64 5) ∧ Below W.heap.size W w') ∧
            (∀ W, Below w4.heap.size w4 W → Calls Tryz.prog 25 #[.pointer (some ⟨cb, 0, none⟩)] W fun e w' => e = .returned (.int .i64 (X : Nat)) ∧ Below W.heap.size W w') ∧
            (∀ W, Below w4.heap.size w4 W → Calls Tryz.prog 24 #[.pointer (some ⟨cb, 0, none⟩)] W fun e w' => e = .returned (.int .i64 (X : Nat)) ∧ Below W.heap.size W w') := by
  have h0 : LOk toyS newL := newL_ok
  refine (C.go 5 hG hK toyS_ok h0).mono ?_
  rintro e w1 ⟨rfl, s1, F1, a1, a2, hK1, _, _⟩
  obtain ⟨e1, e2, e3⟩ := go_done (p := toyS) (d := newL) rfl (by decide) (n := 5) (by decide) (by decide) (by decide) s1
  have h1 := goL_ok (p := toyS) (n := 5) h0 a1 a2 (by decide)
  rw [e1]
  rw [e2] at hK1 h1
  refine ⟨rfl, ?_⟩
  refine (CS hG hK1 toyS_ok h1).mono ?_
  rintro e w2 ⟨rfl, F2, hK2, _, _⟩
  obtain ⟨e4, e5⟩ := sync_done (d := (⟨newL.recs ++ [(.go (Int.toNat 5), s1)], newL.part, newL.safe, newL.stop, newL.less⟩ : LgD)) rfl (show newL.less ≠ 0 by decide)
  have h2 := syncL_ok h1
  rw [e4]
  rw [e5] at hK2 h2
  refine ⟨rfl, ?_⟩
  refine (C.go 7 hG hK2 toyS_ok h2).mono ?_
  rintro e w3 ⟨rfl, s2, F3, a3, a4, hK3, _, _⟩
  obtain ⟨e6, e7, _⟩ := go_done (p := toyS) (d := (⟨newL.recs ++ [(.go (Int.toNat 5), s1)], newL.part, (⟨newL.recs ++ [(.go (Int.toNat 5), s1)], newL.part, newL.safe, newL.stop, newL.less⟩ : LgD).bytes, newL.stop, (⟨newL.recs ++ [(.go (Int.toNat 5), s1)], newL.part, newL.safe, newL.stop, newL.less⟩ : LgD).less⟩ : LgD)) rfl (show (if (0 : Int) < newL.less then IntKind.wrap .i64 (newL.less - 1) else newL.less) ≠ 0 by decide) (n := 7) (by decide) (by decide) (by
    show (ticksK toyS 5 (newK toyS)).time + 7 ≤ 2000
    rw [ticksK_time]
    decide) s2
  have h3 := goL_ok (p := toyS) (n := 7) h2 a3 a4 (by show (1 : Nat) < 40; decide)
  rw [e6]
  rw [e7] at hK3 h3
  refine ⟨rfl, ?_⟩
  refine (CC 0 hG hK3 toyS_ok h3).mono ?_
  rintro e w4 ⟨hv, F4, hK4, _, _⟩
  have h4 := crashL_ok h3 0
  generalize hd3 : (⟨newL.recs ++ [(LStp.go (Int.toNat 5), s1)] ++ [(LStp.go (Int.toNat 7), s2)], newL.part, (⟨newL.recs ++ [(LStp.go (Int.toNat 5), s1)], newL.part, newL.safe, newL.stop, newL.less⟩ : LgD).bytes, newL.stop, (⟨newL.recs ++ [(LStp.go (Int.toNat 5), s1)], newL.part, (⟨newL.recs ++ [(LStp.go (Int.toNat 5), s1)], newL.part, newL.safe, newL.stop, newL.less⟩ : LgD).bytes, newL.stop, (⟨newL.recs ++ [(LStp.go (Int.toNat 5), s1)], newL.part, newL.safe, newL.stop, newL.less⟩ : LgD).less⟩ : LgD).less⟩ : LgD) = d3 at hK4 h4
  have hr : (crashL d3 0).recs = [(.go 5, s1)] := by
    subst hd3
    have hh : LgD.high ⟨newL.recs ++ [(LStp.go (Int.toNat 5), s1)] ++ [(LStp.go (Int.toNat 7), s2)], newL.part, (⟨newL.recs ++ [(LStp.go (Int.toNat 5), s1)], newL.part, newL.safe, newL.stop, newL.less⟩ : LgD).bytes, newL.stop, (⟨newL.recs ++ [(LStp.go (Int.toNat 5), s1)], newL.part, (⟨newL.recs ++ [(LStp.go (Int.toNat 5), s1)], newL.part, newL.safe, newL.stop, newL.less⟩ : LgD).bytes, newL.stop, (⟨newL.recs ++ [(LStp.go (Int.toNat 5), s1)], newL.part, newL.safe, newL.stop, newL.less⟩ : LgD).less⟩ : LgD).less⟩ 0 = s1 := by
      unfold LgD.high LgD.bytes
      simp [newL, sizeR]
    show wholeR _ _ = _
    rw [hh]
    show wholeR s1 [(LStp.go 5, s1), (LStp.go 7, s2)] = _
    rw [wholeR, if_pos (Nat.le_refl _), Nat.sub_self, wholeR, if_neg (by omega)]
  have htm : ((crashL d3 0).k toyS).time = 5 := by
    unfold LgD.k
    rw [hr]
    show (ticksK toyS 5 (newK toyS)).time = 5
    rw [ticksK_time]
    rfl
  have hsb : (crashL d3 0).safe = (crashL d3 0).bytes := by
    obtain ⟨q1, q2⟩ := crash_bytes d3 0
    rw [q1, q2]
  refine ⟨hv, C.since hK4, (crashL d3 0).bytes, fun W hb => ?_, fun W hb => CB (C.frame hK4 (KTouch.of (M := []) hb) (by simp)) h4 toyS_ok, fun W hb => ?_⟩
  · have hq : Calls Tryz.prog 23 #[.pointer (some ⟨cb, 0, none⟩)] W fun e w' => e = .returned (.int .i64 ((crashL d3 0).k toyS).time) ∧ Below W.heap.size W w' := CT (C.frame hK4 (KTouch.of (M := []) hb) (by simp)) h4 toyS_ok
    rw [htm] at hq
    exact hq
  · have hq : Calls Tryz.prog 24 #[.pointer (some ⟨cb, 0, none⟩)] W fun e w' => e = .returned (.int .i64 ((crashL d3 0).safe : Nat)) ∧ Below W.heap.size W w' := CA (C.frame hK4 (KTouch.of (M := []) hb) (by simp)) h4 toyS_ok
    rw [hsb] at hq
    exact hq
end Go.Proofs.YtajfgmlockjmhaiGreatDoor
namespace Go.Proofs.YtajfgmlockjmhaiGreatDoor
open Go.RowKit

/-- The log, and the law's own rows: the records are the steps that were done. -/
structure LKS {G : World → Prop} (C : LogC G) (w w0 wr : World) (p : PD) (d : LgD) (cb : Nat) (F : List Nat) (dn : List (List Int)) (us : List Value) (vd vm : Value) : Prop where
  K : C.K w0 wr p d cb F
  ok : LOk p d
  same : d.recs.map (·.1) = dn.map stepOf
  D : DR w w0.heap.size wr dn us vd
  M : MR w0.heap.size wr d.recs vm
  apd : ∀ g, vd.ownBlock = some g → g ∉ F
  apm : ∀ g, vm.ownBlock = some g → g ∉ F
/-- The log a step further than the rows. -/
structure LKT {G : World → Prop} (C : LogC G) (w w0 wr : World) (p : PD) (d d' : LgD) (cb : Nat) (F : List Nat) (dn : List (List Int)) (us : List Value) (vd vm : Value) : Prop where
  K : C.K w0 wr p d' cb F
  D : DR w w0.heap.size wr dn us vd
  M : MR w0.heap.size wr d.recs vm
  apd : ∀ g, vd.ownBlock = some g → g ∉ F
  apm : ∀ g, vm.ownBlock = some g → g ∉ F
section
variable {G : World → Prop} {C : LogC G} {w w0 wr w' : World} {p : PD} {d d' : LgD} {cb : Nat} {F F' : List Nat} {dn : List (List Int)} {us : List Value} {vd vm : Value}
theorem LKS.all (h : LKS C w w0 wr p d cb F dn us vd vm) (hb : Below wr.heap.size wr w') : LKS C w w0 w' p d cb F dn us vd vm :=
  ⟨C.frame h.K (KTouch.of (M := []) hb) (by simp), h.ok, h.same, h.D.all hb, h.M.all hb, h.apd, h.apm⟩
theorem LKT.all (h : LKT C w w0 wr p d d' cb F dn us vd vm) (hb : Below wr.heap.size wr w') : LKT C w w0 w' p d d' cb F dn us vd vm :=
  ⟨C.frame h.K (KTouch.of (M := []) hb) (by simp), h.D.all hb, h.M.all hb, h.apd, h.apm⟩
/-- A call on the log. -/
theorem LKS.went (h : LKS C w w0 wr p d cb F dn us vd vm) (hK : C.K w0 w' p d' cb F') (ht : KTouch F wr w') (hn : ∀ g ∈ F', g ∈ F ∨ wr.heap.size ≤ g) : LKT C w w0 w' p d d' cb F' dn us vd vm := by
  refine ⟨hK, h.D.touch ht h.apd, MR.touch h.M ht h.apm, fun g hg hm => ?_, fun g hg hm => ?_⟩
  · rcases hn g hm with e | e
    · exact h.apd g hg e
    · have := (h.D.row.lt g hg).2
      omega
  · rcases hn g hm with e | e
    · exact h.apm g hg e
    · have := (World.ownsRow.lt h.M g hg).2
      omega
/-- A call on the log that leaves its records. -/
theorem LKS.call (h : LKS C w w0 wr p d cb F dn us vd vm) (hK : C.K w0 w' p d' cb F') (ht : KTouch F wr w') (hn : ∀ g ∈ F', g ∈ F ∨ wr.heap.size ≤ g) (hok : LOk p d') (hr : d'.recs = d.recs) : LKS C w w0 w' p d' cb F' dn us vd vm := by
  have h2 := h.went hK ht hn
  exact ⟨h2.K, hok, by rw [hr]; exact h.same, h2.D, by rw [hr]; exact h2.M, h2.apd, h2.apm⟩
theorem LKT.stay (h : LKT C w w0 wr p d d' cb F dn us vd vm) (same : d.recs.map (·.1) = dn.map stepOf) (hok : LOk p d') (hr : d'.recs = d.recs) : LKS C w w0 wr p d' cb F dn us vd vm :=
  ⟨h.K, hok, by rw [hr]; exact same, h.D, by rw [hr]; exact h.M, h.apd, h.apm⟩
/-- Blocks of others are written. -/
theorem LKS.frame (h : LKS C w w0 wr p d cb F dn us vd vm) {M : List Nat} (ht : KTouch M wr w') (hM : ∀ m ∈ M, m ∉ F ∧ w0.heap.size ≤ m) (hd : ∀ g, vd.ownBlock = some g → g ∉ M) (hm : ∀ g, vm.ownBlock = some g → g ∉ M) : LKS C w w0 w' p d cb F dn us vd vm :=
  ⟨C.frame h.K ht hM, h.ok, h.same, h.D.touch ht hd, MR.touch h.M ht hm, h.apd, h.apm⟩
theorem LKS.k (h : LKS C w w0 wr p d cb F dn us vd vm) : redoK p (dn.map stepOf) = d.k p := by
  unfold LgD.k
  rw [h.same]
theorem LKS.len (h : LKS C w w0 wr p d cb F dn us vd vm) : d.recs.length = dn.length := by
  have := congrArg List.length h.same
  simpa using this
/-- Blocks that are new since. -/
theorem LKS.newer (h : LKS C w w0 wr p d cb F dn us vd vm) {M : List Nat} (hM : ∀ m ∈ M, wr.heap.size ≤ m) : (∀ m ∈ M, m ∉ F ∧ w0.heap.size ≤ m) ∧ (∀ g, vd.ownBlock = some g → g ∉ M) ∧ (∀ g, vm.ownBlock = some g → g ∉ M) := by
  have hs := (C.since h.K).size
  refine ⟨fun m hm => ⟨fun hf => ?_, by have := hM m hm; omega⟩, fun g hg hm => ?_, fun g hg hm => ?_⟩
  · have h1 := (C.ge h.K m hf).2
    have h2 := hM m hm
    omega
  · have h1 := (h.D.row.lt g hg).2
    have h2 := hM g hm
    omega
  · have h1 := (World.ownsRow.lt h.M g hg).2
    have h2 := hM g hm
    omega
theorem own_ne {x : Nat} {o : Option Nat} (h : ∀ g, o = some g → g ≠ x) : x ∉ o.toList := fun hm => by
  cases o with
  | none => cases hm
  | some y =>
    rw [Option.toList, List.mem_singleton] at hm
    exact h y rfl hm.symm
theorem touch_grown {w w2 wa : World} {row : Option Nat} (hb : Below w.heap.size w w2) (hg : w2.grownBy wa row) : KTouch row.toList w wa :=
  ⟨hg.os.trans hb.os, hg.tape.trans hb.tape, hg.output.trans hb.output, Nat.le_trans hb.size hg.size, fun k hk hm => (hg.block k (Nat.lt_of_lt_of_le hk hb.size) (fun e => hm (by rw [← e]; simp))).trans (hb.block k hk)⟩
/-- A step more among those that were done. -/
theorem LKT.put {w2 wa : World} {vd' u : Value} {x : List Int} (h : LKT C w w0 wr p d d' cb F dn us vd vm) (hb : Below wr.heap.size wr w2) (hg : w2.grownBy wa vd.ownBlock) (hx : x.length = 1 → 0 ≤ x.getD 0 0 ∧ x.getD 0 0 ≤ 100) (hu : Stp w u x) (own : wa.ownsRow w0.heap.size 58 1 vd' (us.length + 1) (us ++ [u])) (hnew : ∀ g, vd'.ownBlock = some g → vd.ownBlock = some g ∨ wr.heap.size ≤ g) : LKT C w w0 wa p d d' cb F (dn ++ [x]) (us ++ [u]) vd' vm := by
  have ht := touch_grown hb hg
  have hin : ∀ m ∈ vd.ownBlock.toList, vd.ownBlock = some m := fun m hm => by
    cases ho : vd.ownBlock with
    | none => rw [ho] at hm; cases hm
    | some y =>
      rw [ho, Option.toList, List.mem_singleton] at hm
      rw [hm]
  refine ⟨C.frame h.K ht (fun m hm => ⟨h.apd m (hin m hm), (h.D.row.lt m (hin m hm)).1⟩), h.D.more hx hu own, MR.touch h.M ht (fun g hg' hm => ?_), fun g hg' hm => ?_, h.apm⟩
  · exact own_two h.D.row h.M (by decide) g (hin g hm) hg'
  · rcases hnew g hg' with e | e
    · exact h.apd g e hm
    · have h1 := (C.ge h.K g hm).2
      omega
/-- A mark more. -/
theorem LKT.mark {w2 wa : World} {vm' : Value} {s : LStp} {sz : Nat} (h : LKT C w w0 wr p d d' cb F dn us vd vm) (hb : Below wr.heap.size wr w2) (hg : w2.grownBy wa vm.ownBlock) (own : wa.ownsRow w0.heap.size 3 1 vm' (d.recs.length + 1 + 1) (ints (marksR d.recs ++ [((sizeR d.recs + sz : Nat) : Int)]))) (hnew : ∀ g, vm'.ownBlock = some g → vm.ownBlock = some g ∨ wr.heap.size ≤ g) (hr : d'.recs = d.recs ++ [(s, sz)]) (hok : LOk p d') (same : d'.recs.map (·.1) = dn.map stepOf) : LKS C w w0 wa p d' cb F dn us vd vm' := by
  have ht := touch_grown hb hg
  have hin : ∀ m ∈ vm.ownBlock.toList, vm.ownBlock = some m := fun m hm => by
    cases ho : vm.ownBlock with
    | none => rw [ho] at hm; cases hm
    | some y =>
      rw [ho, Option.toList, List.mem_singleton] at hm
      rw [hm]
  refine ⟨C.frame h.K ht (fun m hm => ⟨h.apm m (hin m hm), (World.ownsRow.lt h.M m (hin m hm)).1⟩), hok, same, h.D.touch ht (fun g hg' hm => ?_), by rw [hr]; exact MR.more (r := (s, sz)) own, h.apd, fun g hg' hm => ?_⟩
  · exact own_two h.D.row h.M (by decide) g hg' (hin g hm)
  · rcases hnew g hg' with e | e
    · exact h.apm g e hm
    · have h1 := (C.ge h.K g hm).2
      omega
theorem sizeR_le : ∀ (l : List (LStp × Nat)), (∀ r ∈ l, 2 ≤ r.2 ∧ r.2 ≤ 100000) → sizeR l ≤ 100000 * l.length
  | [], _ => by simp [sizeR]
  | r :: l, h => by
    have h1 := sizeR_le l (fun x hx => h x (List.mem_cons_of_mem _ hx))
    have h2 := h r (List.mem_cons_self ..)
    simp only [sizeR, List.length_cons]
    omega
theorem bytes_le (h : LOk p d) : d.bytes ≤ 100000 * d.recs.length + 50000 := by
  have h1 := sizeR_le d.recs h.sz
  have h2 := h.few
  unfold LgD.bytes
  omega
end
theorem infoLg : (Tryz.prog.info? 58).map (fun i => (i.zero, i.size, i.bytes)) = some (some (.slice none 0 0), 1, 24) := by kernel_rfl
end Go.Proofs.YtajfgmlockjmhaiGreatDoor
namespace Go.Proofs.YtajfgmlockjmhaiGreatDoor
open Go.RowKit

set_option maxRecDepth 100000 in
set_option maxHeartbeats 32000000 in
theorem lkeeps_of {G : World → Prop} (C : LogC G) (CP : LogPoke C) (CS : LogSync C) (CF : LogFail C) (CC : LogCrash C) (CX : LogState C) (CT : LogRd C 23 (fun d p => .int .i64 (d.k p).time)) (CB : LogRd C 25 (fun d _ => .int .i64 (d.bytes : Nat))) (CA : LogRd C 24 (fun d _ => .int .i64 (d.safe : Nat)))
    (hE : ∀ (e k : Int) (W : World), G W → Calls Tryz.prog 15 #[wErr e, .int .i64 k] W fun r w' => r = .returned (.bool (decide (e = k))) ∧ Below W.heap.size W w')
    (hR : ∀ (p : PD) (vc vs vw : Value) (W : World), Pln W vc vs vw p → Calls Tryz.prog 26 #[plV vc p.ticks vs vw] W fun e w' => e = .returned (.int .i64 (plchk p)) ∧ Below W.heap.size W w')
    (p : PD) (vc vs vw vt vy vf vk : Value) (sts : List (List Int)) (ys fs ks : List Int) (w : World) (hG : G w) (hP : Pln w vc vs vw p) (hT : Sts w vt sts) (hY : Stp w vy ys) (hF : Stp w vf fs) (hKp : Stp w vk ks) :
    Calls Tryz.prog 7 #[plV vc p.ticks vs vw, vt, vy, vf, vk] w fun e w' => e = .returned (.bool true) ∧ Below w.heap.size w w' := by
  obtain ⟨ta, tc, rfl⟩ := hT.form
  obtain ⟨ya, yc, rfl⟩ := hY.form
  obtain ⟨fa, fc, rfl⟩ := hF.form
  obtain ⟨ka, kc, rfl⟩ := hKp.form
  have hx0 := Bx.first w vc p.ticks vs vw
  have HG : Hid (∀ W, Below w.heap.size w W → G W) := fun W hb => C.all w W hG hb
  have HP : Hid (Pln w vc vs vw p) := hP
  have HT : Hid (Sts w (.slice ta sts.length tc) sts) := hT
  have HY : Hid (Stp w (.slice ya ys.length yc) ys) := hY
  have HF : Hid (Stp w (.slice fa fs.length fc) fs) := hF
  have HKP : Hid (Stp w (.slice ka ks.length kc) ks) := hKp
  have HE : Hid (∀ (e k : Int) (W : World), Below w.heap.size w W → Calls Tryz.prog 15 #[wErr e, .int .i64 k] W fun r w' => r = .returned (.bool (decide (e = k))) ∧ Below W.heap.size W w') := fun e k W hb => hE e k W (HG.out W hb)
  have HRP : Hid (∀ W, Below w.heap.size w W → Calls Tryz.prog 26 #[.agg #[vc, .int .i64 p.ticks, vs, vw]] W fun e w' => e = .returned (.int .i64 (plchk p)) ∧ Below W.heap.size W w') := fun W hb => hR p vc vs vw W (HP.out.all hb)
  have hA : Below w.heap.size w ((((w.alloc (.cells #[vc, .int .i64 p.ticks, vs, vw] 26)).alloc (.cells #[.int .i64 10, .int .i64 0, .int .i64 0] 28)).alloc (.cells #[.slice (some ⟨w.heap.size + 1, 0, none⟩) 1 1] 29)).alloc (.cells #[.slice (some ⟨w.heap.size + 1 + 1, 0, none⟩) 1 1, .int .i64 1, .slice none 0 0, .slice none 0 0] 26)) := (((Below.refl _ _).alloc (Nat.le_refl _) _).alloc (by simp) _).alloc (by simp; omega) _ |>.alloc (by simp; omega) _
  have hxA : Bx w ((((w.alloc (.cells #[vc, .int .i64 p.ticks, vs, vw] 26)).alloc (.cells #[.int .i64 10, .int .i64 0, .int .i64 0] 28)).alloc (.cells #[.slice (some ⟨w.heap.size + 1, 0, none⟩) 1 1] 29)).alloc (.cells #[.slice (some ⟨w.heap.size + 1 + 1, 0, none⟩) 1 1, .int .i64 1, .slice none 0 0, .slice none 0 0] 26)) vc p.ticks vs vw := ((hx0.step ((Below.refl _ _).alloc (Nat.le_refl _) _)).step ((Below.refl _ _).alloc (Nat.le_refl _) _)).step ((Below.refl _ _).alloc (Nat.le_refl _) _)
  have hpl : Pln ((((w.alloc (.cells #[vc, .int .i64 p.ticks, vs, vw] 26)).alloc (.cells #[.int .i64 10, .int .i64 0, .int .i64 0] 28)).alloc (.cells #[.slice (some ⟨w.heap.size + 1, 0, none⟩) 1 1] 29)).alloc (.cells #[.slice (some ⟨w.heap.size + 1 + 1, 0, none⟩) 1 1, .int .i64 1, .slice none 0 0, .slice none 0 0] 26)) (.slice (some ⟨w.heap.size + 1 + 1, 0, none⟩) 1 1) (.slice none 0 0) (.slice none 0 0) toyS := (toyS_pln (w.alloc (.cells #[vc, .int .i64 p.ticks, vs, vw] 26)) (w.heap.size + 1) (by simp)).all ((Below.refl _ _).alloc (Nat.le_refl _) _)
  have hbox : ((((w.alloc (.cells #[vc, .int .i64 p.ticks, vs, vw] 26)).alloc (.cells #[.int .i64 10, .int .i64 0, .int .i64 0] 28)).alloc (.cells #[.slice (some ⟨w.heap.size + 1, 0, none⟩) 1 1] 29)).alloc (.cells #[.slice (some ⟨w.heap.size + 1 + 1, 0, none⟩) 1 1, .int .i64 1, .slice none 0 0, .slice none 0 0] 26)).heap[w.heap.size + 1 + 1 + 1]? = some (.cells #[.slice (some ⟨w.heap.size + 1 + 1, 0, none⟩) 1 1, .int .i64 1, .slice none 0 0, .slice none 0 0] 26 (0, 0)) := by
    have := World.alloc_heap_new (((w.alloc (.cells #[vc, .int .i64 p.ticks, vs, vw] 26)).alloc (.cells #[.int .i64 10, .int .i64 0, .int .i64 0] 28)).alloc (.cells #[.slice (some ⟨w.heap.size + 1, 0, none⟩) 1 1] 29)) (.cells #[.slice (some ⟨w.heap.size + 1 + 1, 0, none⟩) 1 1, .int .i64 1, .slice none 0 0, .slice none 0 0] 26)
    simpa only [World.size_alloc] using this
  generalize hvt : Value.slice (some ⟨w.heap.size + 1 + 1, 0, none⟩) 1 1 = vt at hA hxA hpl hbox
  generalize hWA : ((((w.alloc (.cells #[vc, .int .i64 p.ticks, vs, vw] 26)).alloc (.cells #[.int .i64 10, .int .i64 0, .int .i64 0] 28)).alloc (.cells #[.slice (some ⟨w.heap.size + 1, 0, none⟩) 1 1] 29)).alloc (.cells #[vt, .int .i64 1, .slice none 0 0, .slice none 0 0] 26)) = WA at hA hxA hpl hbox
  have hbc : WA.cell? ⟨w.heap.size + 1 + 1 + 1, 0, none⟩ = some vt ∧ WA.cell? ⟨w.heap.size + 1 + 1 + 1, 1, none⟩ = some (.int .i64 1) ∧ WA.cell? ⟨w.heap.size + 1 + 1 + 1, 2, none⟩ = some (.slice none 0 0) ∧ WA.cell? ⟨w.heap.size + 1 + 1 + 1, 3, none⟩ = some (.slice none 0 0) := by
    simp [World.cell?, hbox]
  obtain ⟨a0, a1, a2, a3⟩ := hbc
  have q0 : Calls Tryz.prog 17 #[.agg #[vt, .int .i64 1, .slice none 0 0, .slice none 0 0]] WA fun e w' => ∃ cb F, e = .returned (.tuple #[.pointer (some ⟨cb, 0, none⟩), .nilIface]) ∧ C.K WA w' toyS newL cb F := C.new toyS vt (.slice none 0 0) (.slice none 0 0) WA (HG.out _ hA) hpl toyS_ok
  have HLF : Hid (∀ W cb F, C.K WA W toyS newL cb F → _) := fun W cb F hK => lk_fact C CS CC CT CB CA (HG.out _ hA) hK
  have HVT : Hid (Value.slice (some ⟨w.heap.size + 1 + 1, 0, none⟩) 1 1 = vt) := hvt
  have HWA : Hid (((((w.alloc (.cells #[vc, .int .i64 p.ticks, vs, vw] 26)).alloc (.cells #[.int .i64 10, .int .i64 0, .int .i64 0] 28)).alloc (.cells #[.slice (some ⟨w.heap.size + 1, 0, none⟩) 1 1] 29)).alloc (.cells #[vt, .int .i64 1, .slice none 0 0, .slice none 0 0] 26)) = WA) := hWA
  unfold plV
  clear hP hG hE hR hT hY hF hKp hpl hbox hvt hWA hx0
  go_enter Tryz.func7, Tryz.ntmps7
  go_upto_region 2 with fail
  rw [HVT.out, HWA.out]
  clear HVT HWA
  go_upto_region 5 with (go_at_call 17; refine q0.mono ?_; rintro e w1 ⟨cb0, F0, rfl, hK0⟩; clear q0 a0 a1 a2 a3)
  have q1 := HLF.out w1 cb0 F0 hK0
  clear HLF hK0
  go_upto_region 9 with (first
    | (go_at_call 19; refine q1.mono ?_; rintro e w2 ⟨rfl, q2⟩; clear q1)
    | (go_at_call 20; refine q2.mono ?_; rintro e w3 ⟨rfl, q3⟩; clear q2)
    | (go_at_call 19; refine q3.mono ?_; rintro e w4 ⟨rfl, q4⟩; clear q3)
    | (go_at_call 22; refine q4.mono ?_; rintro e w5 ⟨⟨v5, rfl⟩, hb5, X, qT, qB, qS⟩; clear q4))
  have hx5 : Bx w w5 vc p.ticks vs vw := Below.trans hxA (hb5.mono hxA.size)
  have q6 := qT w5 (Below.refl _ _)
  have hq1 : ((X : Int) != (X : Int)) = false := by simp
  go_upto_region 11 with (first
    | (go_at_call 23; refine q6.mono ?_; rintro e w6 ⟨rfl, b6⟩; clear q6; have q7 := qB w6 b6)
    | (go_at_call 25; refine q7.mono ?_; rintro e w7 ⟨rfl, b7⟩; clear q7; have b67 := b6.trans (b7.mono b6.size); have q8 := qS w7 b67)
    | (go_at_call 24; refine q8.mono ?_; rintro e w8 ⟨rfl, b8⟩; clear q8))
  have hx8 := hx5.step (b67.trans (b8.mono b67.size))
  clear qT qB qS hq1 hx5 b6 b7 b8 b67 hb5 hxA
  have k0 := hx8.c0
  have k1 := hx8.c1
  have k2 := hx8.c2
  have k3 := hx8.c3
  have q1 := HRP.out w8 hx8.below
  by_cases hp : plchk p = 0
  case neg =>
    as_aux_lemma =>
    have HN : Hid (∀ W, Below w.heap.size w W → Calls Tryz.prog 17 #[.agg #[vc, .int .i64 p.ticks, vs, vw]] W fun e w' => ∃ x, e = .returned (.tuple #[.pointer x, .iface 93 (.int .i64 (plchk p))]) ∧ Below W.heap.size W w') := fun W hb => by
      have := C.no p vc vs vw W (HG.out W hb) (HP.out.all hb) hp
      rw [wErr_not hp] at this
      exact this
    have HE2 : Hid (∀ W, Below w.heap.size w W → Calls Tryz.prog 15 #[.iface 93 (.int .i64 (plchk p)), .int .i64 (plchk p)] W fun r w' => r = .returned (.bool true) ∧ Below W.heap.size W w') := fun W hb => by
      have := HE.out (plchk p) (plchk p) W hb
      rw [wErr_not hp] at this
      simpa using this
    have hpb : (plchk p == 0) = false := by simpa using hp
    have hpn : (plchk p != 0) = true := by simpa using hp
    clear HRP
    generalize plchk p = z at q1 HN HE2 hp hpb hpn
    go_wp2_with (first
      | (go_at_call 26; refine q1.mono ?_; rintro e w9 ⟨rfl, b9⟩; clear q1 k0 k1 k2 k3; have hx9 := hx8.step b9; have k0 := hx9.c0; have k1 := hx9.c1; have k2 := hx9.c2; have k3 := hx9.c3; have q2 := HN.out w9 hx9.below)
      | (go_at_call 17; refine q2.mono ?_; rintro e w10 ⟨xp, rfl, b10⟩; clear q2; have hx10 := hx9.step b10; have q3 := HE2.out w10 hx10.below)
      | (go_at_call 15; refine q3.mono ?_; rintro e w11 ⟨rfl, b11⟩; clear q3))
    go_ret
    exact ⟨rfl, (hx10.step b11).below⟩
  have HN : Hid (∀ W, Below w.heap.size w W → Calls Tryz.prog 17 #[.agg #[vc, .int .i64 p.ticks, vs, vw]] W fun e w' => ∃ cb F, e = .returned (.tuple #[.pointer (some ⟨cb, 0, none⟩), .nilIface]) ∧ C.K W w' p newL cb F) := fun W hb => C.new p vc vs vw W (HG.out W hb) (HP.out.all hb) hp
  have HE2 : Hid (∀ W, Below w.heap.size w W → Calls Tryz.prog 15 #[.nilIface, .int .i64 0] W fun r w' => r = .returned (.bool true) ∧ Below W.heap.size W w') := fun W hb => HE.out 0 0 W hb
  have HZ : Hid (plchk p = 0) := hp
  rw [hp] at q1
  clear hp HRP
  go_upto_region 17 with (first
    | (go_at_call 26; refine q1.mono ?_; rintro e w9 ⟨rfl, b9⟩; clear q1 k0 k1 k2 k3; have hx9 := hx8.step b9; have k0 := hx9.c0; have k1 := hx9.c1; have k2 := hx9.c2; have k3 := hx9.c3; have q2 := HN.out w9 hx9.below)
    | (go_at_call 17; refine q2.mono ?_; rintro e w10 ⟨cb, F, rfl, hK⟩; clear q2 k0 k1 k2 k3; have hx10 := hx9.step (C.since hK); have q3 := HE2.out w10 hx10.below)
    | (go_at_call 15; refine q3.mono ?_; rintro e w11 ⟨rfl, b11⟩; clear q3))
  have HG9 : Hid (G w9) := HG.out w9 hx9.below
  have HXW : Hid (∀ W, Below w9.heap.size w9 W → Bx w W vc p.ticks vs vw) := fun W hb => hx9.step hb
  have hs9 := hx9.size
  have hK11 : C.K w9 w11 p newL cb F := C.frame hK (KTouch.of (M := []) b11) (by simp)
  have b12 : Below w11.heap.size w11 (w11.alloc (.cells #[.int .i64 0] 3)) := (Below.refl _ _).alloc (Nat.le_refl _) _
  have hs11 : w9.heap.size ≤ w11.heap.size := (C.since hK11).size
  have hL0 : LKS C w w9 (w11.alloc (.cells #[.int .i64 0] 3)) p newL cb F [] [] (.slice none 0 0) (.slice (some ⟨w11.heap.size, 0, none⟩) 1 1) := by
    refine ⟨C.frame hK11 (KTouch.of (M := []) b12) (by simp), newL_ok, rfl, DR.first _ _ _, ?_, fun g hg => (by simp [Value.ownBlock] at hg), fun g hg hm => ?_⟩
    · exact ⟨rfl, Or.inr ⟨w11.heap.size, 1, #[.int .i64 0], rfl, hs11, World.alloc_heap_new w11 _, Nat.le_refl _, by decide, rfl, rfl⟩⟩
    · simp [Value.ownBlock] at hg
      have := (C.ge hK11 g hm).2
      omega
  go_upto_region 20 with fail
  have hs12 : w9.heap.size ≤ (w11.alloc (.cells #[.int .i64 0] 3)).heap.size := Nat.le_trans hs11 b12.size
  clear hK hK11 hs11 b12 hx8 hx9 hx10 b9 b11 HN HE2
  generalize w11.heap.size = mb at hL0 ⊢
  generalize w11.alloc (.cells #[.int .i64 0] 3) = w12 at hL0 hs12 ⊢
  go_loopw [21, 22, 23, 24] (fun s21 s22 s23 s24 wr => ∃ (r t : Nat) (d : LgD) (F : List Nat) (dn : List (List Int)) (us : List Value), r ≤ 4 ∧ t ≤ 8 * r ∧ s23 = .int .i64 t ∧ s24 = .int .i64 r ∧ dn.length ≤ t ∧ LKS C w w9 wr p d cb F dn us s21 s22) (fun _ _ _ s _ => 4 - (intOf s).toNat)
  case atStart => exact ⟨0, 0, newL, F, [], [], Nat.zero_le _, Nat.zero_le _, rfl, rfl, Nat.zero_le _, hL0⟩
  case round =>
  clear hL0 hs12
  obtain ⟨r, t, d, F1, dn, us, hr, ht, rfl, rfl, hdl, hL⟩ := hrel
  by_cases hgo : r ≤ fs.length ∧ r < 4
  case neg =>
    as_aux_lemma =>
    have hbE : Below w.heap.size w wr := (HXW.out _ (C.since hL.K)).below
    clear hL
    go_upto_region 20 with fail
    go_cut [107] from 100 to 106 (fun s107 wx => s107 = .bool false ∧ wx = wr)
    case first =>
      as_aux_lemma =>
      by_cases h1 : r ≤ fs.length
      · have h1' : decide ((r : Int) ≤ (fs.length : Int)) = true := decide_eq_true (by omega)
        have h1n : decide (r ≤ fs.length) = true := decide_eq_true h1
        obtain rfl : r = 4 := by omega
        rw [show ((4 : Nat) : Int) = 4 from rfl] at h1' ⊢
        clear hgo
        go_wp2_with fail
        go_meet
        case rel => exact ⟨rfl, rfl⟩
      · have h1' : decide ((r : Int) ≤ (fs.length : Int)) = false := decide_eq_false (by omega)
        have h1n : decide (r ≤ fs.length) = false := decide_eq_false h1
        clear hgo
        go_wp2_with fail
        go_meet
        case rel => exact ⟨rfl, rfl⟩
    case rest =>
    obtain ⟨rfl, hwc⟩ := hcut
    rw [hwc]
    clear hwc wc
    go_step
    go_wp2_with fail
    go_ret
    exact ⟨rfl, hbE⟩
  obtain ⟨hg1, hg2⟩ := hgo
  have hg1' : (r : Int) ≤ (fs.length : Int) := by omega
  have hg2' : (r : Int) < 4 := by omega
  go_upto_region 22 with fail
  go_cut [113] from 110 to 112 (fun s113 wx => s113 = .bool (decide (r < fs.length)) ∧ wx = wr)
  case first =>
    as_aux_lemma =>
    by_cases h1 : r < fs.length
    · have h1' : decide ((r : Int) < (fs.length : Int)) = true := decide_eq_true (by omega)
      have HX : Hid (decide (r < fs.length) = true) := decide_eq_true h1
      clear hL
      go_wp2_with fail
      go_meet
      case rel => exact ⟨by rw [HX.out], rfl⟩
    · have h1' : decide ((r : Int) < (fs.length : Int)) = false := decide_eq_false (by omega)
      have HX : Hid (decide (r < fs.length) = false) := decide_eq_false h1
      clear hL
      go_wp2_with fail
      go_meet
      case rel => exact ⟨by rw [HX.out], rfl⟩
  case rest =>
  obtain ⟨rfl, hwc⟩ := hcut
  rw [hwc]
  clear hwc wc
  go_step
  rename World => wA
  go_cut [114] from 113 to 119 (fun _ wx => ∃ d' F', LKS C w w9 wx p d' cb F' dn us u21 u22)
  case first =>
    as_aux_lemma =>
    by_cases h1 : r < fs.length
    · have h1i : (r : Int) < (fs.length : Int) := by omega
      have hd : decide (r < fs.length) = true := decide_eq_true h1
      rw [hd]
      have hbA : Below w.heap.size w wA := (HXW.out _ (C.since hL.K)).below
      obtain ⟨fb, fo, x, rfl, hxc, hfx⟩ := HF.out.at hbA h1
      have q1 := CF x HG9.out hL.K HZ.out hL.ok
      have HLS : Hid (∀ w' F', C.K w9 w' p (failL d x) cb F' → KTouch F1 wA w' → (∀ g ∈ F', g ∈ F1 ∨ wA.heap.size ≤ g) → LKS C w w9 w' p (failL d x) cb F' dn us u21 u22) := fun w' F' a1 a2 a3 => hL.call a1 a2 a3 (failL_ok hL.ok x) rfl
      clear hL hfx hd
      go_wp2_with (go_at_call 18; refine q1.mono ?_; rintro e w13 ⟨⟨v13, rfl⟩, F13, hK13, tk13, hn13⟩; clear q1)
      go_meet
      case rel => exact ⟨_, F13, HLS.out w13 F13 hK13 tk13 hn13⟩
    · have hd : decide (r < fs.length) = false := decide_eq_false h1
      rw [hd]
      have HLS : Hid (LKS C w w9 wA p d cb F1 dn us u21 u22) := hL
      clear hL hd
      go_wp2_with fail
      go_meet
      case rel => exact ⟨d, F1, HLS.out⟩
  case rest =>
  obtain ⟨d2, F2, hL2⟩ := hcut
  clear hL
  generalize wc = wB at *
  go_step
  go_upto_region 25 with fail
  go_loopw [21, 22, 23, 25] (fun s21 s22 s23 s25 wr => ∃ (k t : Nat) (d : LgD) (F : List Nat) (dn : List (List Int)) (us : List Value), k ≤ 8 ∧ t ≤ 8 * r + k ∧ s23 = .int .i64 t ∧ s25 = .int .i64 k ∧ dn.length ≤ t ∧ LKS C w w9 wr p d cb F dn us s21 s22) (fun _ _ _ s _ => 8 - (intOf s).toNat)
  case atStart => exact ⟨0, t, d2, F2, dn, us, Nat.zero_le _, by omega, rfl, rfl, hdl, hL2⟩
  case round =>
  clear hL2 hdl ht
  obtain ⟨k, t2, d3, F3, dn3, us3, hk, ht2, rfl, rfl, hdl3, hL3⟩ := hrel
  by_cases hgo : k < 8 ∧ t2 < sts.length
  case neg =>
    as_aux_lemma =>
    have hbW : Below w.heap.size w wr := (HXW.out _ (C.since hL3.K)).below
    rename World => wA
    go_upto_region 25 with fail
    go_cut [127] from 120 to 126 (fun s127 wx => s127 = .bool false ∧ wx = wA)
    case first =>
      as_aux_lemma =>
      clear hL3
      by_cases h1 : k < 8
      · have h1i : (k : Int) < 8 := by omega
        have h2 : decide ((t2 : Int) < (sts.length : Int)) = false := decide_eq_false (by omega)
        have h2n : decide (t2 < sts.length) = false := decide_eq_false (by omega)
        clear hgo
        go_wp2_with fail
        go_meet
        case rel => exact ⟨rfl, rfl⟩
      · obtain rfl : k = 8 := by omega
        clear hgo
        go_wp2_with fail
        go_meet
        case rel => exact ⟨rfl, rfl⟩
    case rest =>
    obtain ⟨rfl, hwc⟩ := hcut
    rw [hwc]
    clear hwc wc
    go_step
    go_upto_region 60 with fail
    go_cut [267] from 264 to 266 (fun s267 wx => s267 = .bool (decide (r < ks.length)) ∧ wx = wA)
    case first =>
      as_aux_lemma =>
      clear hL3
      by_cases h1 : r < ks.length
      · have h1' : decide ((r : Int) < (ks.length : Int)) = true := decide_eq_true (by omega)
        have HX : Hid (decide (r < ks.length) = true) := decide_eq_true h1
        go_wp2_with fail
        go_meet
        case rel => exact ⟨by rw [HX.out], rfl⟩
      · have h1' : decide ((r : Int) < (ks.length : Int)) = false := decide_eq_false (by omega)
        have HX : Hid (decide (r < ks.length) = false) := decide_eq_false h1
        go_wp2_with fail
        go_meet
        case rel => exact ⟨by rw [HX.out], rfl⟩
    case rest =>
    obtain ⟨rfl, hwc⟩ := hcut
    rw [hwc]
    clear hwc wc
    go_step
    go_cut [34] from 267 to 271 (fun s34 wx => ∃ x : Int, s34 = .int .i64 x ∧ wx = wA)
    case first =>
      as_aux_lemma =>
      clear hL3
      by_cases h1 : r < ks.length
      · have h1i : (r : Int) < (ks.length : Int) := by omega
        rw [decide_eq_true h1]
        obtain ⟨fb, fo, x, rfl, hxc, hfx⟩ := HKP.out.at hbW h1
        clear hfx
        go_wp2_with fail
        go_meet
        case rel => exact ⟨_, rfl, rfl⟩
      · rw [decide_eq_false h1]
        go_wp2_with fail
        go_meet
        case rel => exact ⟨_, rfl, rfl⟩
    case rest =>
    obtain ⟨kp, rfl, hwc⟩ := hcut
    rw [hwc]
    clear hwc wc
    go_step
    have q1 : Calls Tryz.prog 25 #[.pointer (some ⟨cb, 0, none⟩)] wA fun e w' => e = .returned (.int .i64 (d3.bytes : Nat)) ∧ Below wA.heap.size wA w' := CB hL3.K hL3.ok HZ.out
    have HQ2 : Hid (∀ W, Below wA.heap.size wA W → (Calls Tryz.prog 24 #[.pointer (some ⟨cb, 0, none⟩)] W fun e w' => e = .returned (.int .i64 (d3.safe : Nat)) ∧ Below W.heap.size W w')) := fun W hb => CA (hL3.all hb).K hL3.ok HZ.out
    have HQ3 : Hid (∀ W, Below wA.heap.size wA W → (Calls Tryz.prog 22 #[.pointer (some ⟨cb, 0, none⟩), .int .i64 kp] W fun e w' => (∃ v, e = .returned v) ∧ ∃ F', LKT C w w9 w' p d3 (crashL d3 kp) cb F' dn3 us3 u21 u22)) := fun W hb => by
      have h := hL3.all hb
      refine (CC kp HG9.out h.K HZ.out h.ok).mono ?_
      rintro e w' ⟨hv, F', hK', tk', hn'⟩
      exact ⟨hv, F', h.went hK' tk' hn'⟩
    have HOK3 : Hid (LOk p d3) := hL3.ok
    have HSM3 : Hid (d3.recs.map (·.1) = dn3.map stepOf) := hL3.same
    have hlen3 := hL3.len
    have hbl3 := bytes_le hL3.ok
    have hbs3 := bytes_safe hL3.ok
    have HHI : Hid ((d3.high kp : Int) = if 0 < kp ∧ kp < (d3.bytes : Int) - (d3.safe : Int) then (d3.safe : Int) + kp else if 0 < kp then (d3.bytes : Int) else (d3.safe : Int)) := high_is hL3.ok kp
    have HBY : Hid ((crashL d3 kp).bytes = sizeR (d3.recs.take (wholeN (d3.high kp) d3.recs)) ∧ (crashL d3 kp).safe = sizeR (d3.recs.take (wholeN (d3.high kp) d3.recs))) := crash_bytes d3 kp
    have HRC : Hid ((crashL d3 kp).recs = d3.recs.take (wholeN (d3.high kp) d3.recs)) := crash_recs d3 kp
    have HMK : Hid (∀ i, i ≤ d3.recs.length → (sizeR (d3.recs.take i) ≤ d3.high kp ↔ i ≤ wholeN (d3.high kp) d3.recs)) := fun i hi => mark_iff hi
    have hnn := wholeN_le (d3.high kp) d3.recs
    clear hL3
    generalize hbb : d3.bytes = BY at q1 HHI hbl3 hbs3
    generalize hss : d3.safe = SA at HQ2 HHI hbs3
    clear hbb hss
    go_upto_region 65 with (first
      | (go_at_call 25; refine q1.mono ?_; rintro e w13 ⟨rfl, b13⟩; clear q1; have q2 := HQ2.out w13 b13)
      | (go_at_call 24; refine q2.mono ?_; rintro e w14 ⟨rfl, b14⟩; clear q2; have b134 := b13.trans (b14.mono b13.size); have q3 := HQ3.out w14 b134)
      | (go_at_call 22; refine q3.mono ?_; rintro e w15 ⟨⟨v15, rfl⟩, F15, hLT⟩; clear q3))
    clear HQ2 HQ3 b13 b14 b134 hbW
    generalize d3.high kp = HG' at HHI HBY HRC HMK hnn
    generalize wholeN HG' d3.recs = nn at HBY HRC HMK hnn
    have hnd : nn ≤ dn3.length := by omega
    have hrb : d3.recs.length ≤ 48 := by omega
    clear hlen3
    go_upto_region 66 with fail
    have hw1 : IntKind.i64.wrap ((BY : Int) - (SA : Int)) = (BY : Int) - (SA : Int) := IntWalk.i64_in _ (by omega)
    go_cut [288] from 280 to 287 (fun s288 wx => s288 = .bool (decide (0 < kp ∧ kp < (BY : Int) - (SA : Int))) ∧ wx = w15)
    case first =>
      as_aux_lemma =>
      clear hLT
      by_cases h1 : 0 < kp
      · have h1d : decide (0 < kp) = true := decide_eq_true h1
        by_cases h2 : kp < (BY : Int) - (SA : Int)
        · have h2d : decide (kp < (BY : Int) - (SA : Int)) = true := decide_eq_true h2
          have HX : Hid (decide (0 < kp ∧ kp < (BY : Int) - (SA : Int)) = true) := decide_eq_true ⟨h1, h2⟩
          go_wp2_with fail
          go_meet
          case rel => exact ⟨by rw [HX.out], rfl⟩
        · have h2d : decide (kp < (BY : Int) - (SA : Int)) = false := decide_eq_false h2
          have HX : Hid (decide (0 < kp ∧ kp < (BY : Int) - (SA : Int)) = false) := decide_eq_false (fun h => h2 h.2)
          go_wp2_with fail
          go_meet
          case rel => exact ⟨by rw [HX.out], rfl⟩
      · have h1d : decide (0 < kp) = false := decide_eq_false h1
        have HX : Hid (decide (0 < kp ∧ kp < (BY : Int) - (SA : Int)) = false) := decide_eq_false (fun h => h1 h.1)
        go_wp2_with fail
        go_meet
        case rel => exact ⟨by rw [HX.out], rfl⟩
    case rest =>
    obtain ⟨rfl, hwc⟩ := hcut
    rw [hwc]
    clear hwc wc
    go_step
    go_cut [37] from 288 to 294 (fun s37 wx => s37 = .int .i64 (HG' : Nat) ∧ wx = w15)
    case first =>
      as_aux_lemma =>
      clear hLT
      by_cases h1 : 0 < kp ∧ kp < (BY : Int) - (SA : Int)
      · rw [decide_eq_true h1]
        have hw2 : IntKind.i64.wrap ((SA : Int) + kp) = (SA : Int) + kp := IntWalk.i64_in _ (by omega)
        have HR : Hid ((HG' : Int) = (SA : Int) + kp) := by
          show _ = _
          rw [HHI.out, if_pos h1]
        go_wp2_with fail
        go_meet
        case rel => exact ⟨by rw [HR.out], rfl⟩
      · rw [decide_eq_false h1]
        by_cases h2 : 0 < kp
        · have h1d : decide (0 < kp) = true := decide_eq_true h2
          have HR : Hid ((HG' : Int) = (BY : Int)) := by
            show _ = _
            rw [HHI.out, if_neg h1, if_pos h2]
          go_wp2_with fail
          go_meet
          case rel => exact ⟨by rw [HR.out], rfl⟩
        · have h1d : decide (0 < kp) = false := decide_eq_false h2
          have HR : Hid ((HG' : Int) = (SA : Int)) := by
            show _ = _
            rw [HHI.out, if_neg h1, if_neg h2]
          go_wp2_with fail
          go_meet
          case rel => exact ⟨by rw [HR.out], rfl⟩
    case rest =>
    obtain ⟨rfl, hwc⟩ := hcut
    rw [hwc]
    clear hwc wc HHI
    go_step
    obtain ⟨mg, mc, rfl, hmc, hmB, hmlt, hmk⟩ := hLT.M.form
    have HMK2 : Hid (∀ i, i ≤ d3.recs.length → w15.cell? ⟨mg, i, none⟩ = some (.int .i64 (sizeR (d3.recs.take i) : Nat))) := hmk
    clear hmk
    go_upto_region 72 with fail
    go_loopw [38, 39] (fun s38 s39 wr => ∃ i : Nat, i ≤ d3.recs.length + 1 ∧ s39 = .int .i64 i ∧ s38 = .int .i64 (leftJ nn i : Nat) ∧ wr = w15) (fun _ s _ => d3.recs.length + 1 - (intOf s).toNat)
    case atStart => exact ⟨0, Nat.zero_le _, rfl, by rw [leftJ_zero]; rfl, rfl⟩
    case round =>
    obtain ⟨i, hi, rfl, rfl, hwr⟩ := hrel
    rw [hwr]
    clear hwr wr
    by_cases hil : i < d3.recs.length + 1
    case pos =>
      as_aux_lemma =>
      have hii : (i : Int) < ((d3.recs.length + 1 : Nat) : Int) := by omega
      have hii2 : (i : Int) < (d3.recs.length : Int) + 1 := by omega
      have c0 := HMK2.out i (by omega)
      have hiff := HMK.out i (by omega)
      clear hLT
      generalize sizeR (d3.recs.take i) = si at c0 hiff
      by_cases hin : i ≤ nn
      · have hle : decide ((si : Int) ≤ (HG' : Int)) = true := decide_eq_true (by have := hiff.2 hin; omega)
        have hle2 : decide (si ≤ HG') = true := decide_eq_true (hiff.2 hin)
        have hle3 : si ≤ HG' := hiff.2 hin
        have HJ : Hid (leftJ nn (i + 1) = i) := leftJ_yes hin
        clear hiff
        go_wp2_with fail
        go_roundw
        case rel => exact ⟨i + 1, by omega, by go_num, by rw [HJ.out], by trivial⟩
        case measure => simp [intOf]; omega
      · have hle : decide ((si : Int) ≤ (HG' : Int)) = false := decide_eq_false (fun h => hin (hiff.1 (by omega)))
        have hle2 : decide (si ≤ HG') = false := decide_eq_false (fun h => hin (hiff.1 h))
        have HJ : Hid (leftJ nn (i + 1) = leftJ nn i) := leftJ_no (by omega)
        clear hiff
        go_wp2_with fail
        go_roundw
        case rel => exact ⟨i + 1, by omega, by go_num, by rw [HJ.out], by trivial⟩
        case measure => simp [intOf]; omega
    obtain rfl : i = d3.recs.length + 1 := by omega
    rw [leftJ_end hnn]
    have hif : decide (((d3.recs.length + 1 : Nat) : Int) < ((d3.recs.length + 1 : Nat) : Int)) = false := decide_eq_false (by omega)
    have hif2 : decide ((d3.recs.length : Int) + 1 < (d3.recs.length : Int) + 1) = false := decide_eq_false (by omega)
    clear hi hil
    go_upto_region 76 with fail
    go_cut [21] from 308 to 310 (fun s21 wx => Hid (DR w w9.heap.size w15 (dn3.take nn) (us3.take nn) s21 ∧ ∀ g, s21.ownBlock = some g → g ∉ F15) ∧ wx = w15)
    case first =>
      as_aux_lemma =>
      rcases hLT.D.cut hnd with ⟨hvd, hn0, hdn⟩ | ⟨g, gcap, hvd, hcap, hDc⟩
      · have HD : Hid (DR w w9.heap.size w15 (dn3.take nn) (us3.take nn) (.slice none 0 0) ∧ ∀ g, (Value.slice none 0 0).ownBlock = some g → g ∉ F15) := by
          rw [hn0, List.take_zero, List.take_zero]
          exact ⟨DR.first _ _ _, fun g hg => by cases hg⟩
        have hnz : (nn : Int) = 0 := by omega
        subst hvd
        clear hLT hdn
        subst hn0
        go_wp2_with fail
        go_meet
        case rel => exact ⟨HD, rfl⟩
      · have HD : Hid (DR w w9.heap.size w15 (dn3.take nn) (us3.take nn) (.slice (some ⟨g, 0, none⟩) nn gcap) ∧ ∀ g', (Value.slice (some ⟨g, 0, none⟩) nn gcap).ownBlock = some g' → g' ∉ F15) := ⟨hDc, fun g' hg' => hLT.apd g' (by rw [hvd]; exact hg')⟩
        have hul : us3.length = dn3.length := hLT.D.len
        have hni : (nn : Int) ≤ (gcap : Int) := by omega
        have hnc : nn ≤ gcap := by omega
        subst hvd
        clear hLT hDc hul
        go_wp2_with fail
        go_meet
        case rel => exact ⟨HD, rfl⟩
    case rest =>
    obtain ⟨HD, hwc⟩ := hcut
    rw [hwc]
    clear hwc wc
    go_upto_region 77 with fail
    have hw3 : IntKind.i64.wrap ((nn : Int) + 1) = (nn : Int) + 1 := IntWalk.i64_in _ (by omega)
    have hn1 : (nn : Int) + 1 ≤ (mc : Int) := by omega
    have hn2 : nn + 1 ≤ mc := by omega
    go_cut [22] from 311 to 314 (fun s22 wx => s22 = .slice (some ⟨mg, 0, none⟩) (nn + 1) mc ∧ wx = w15)
    case first =>
      as_aux_lemma =>
      clear hLT HD
      go_wp2_with fail
      go_meet
      case rel => exact ⟨by first | rfl | (congr 1), rfl⟩
    case rest =>
    obtain ⟨rfl, hwc⟩ := hcut
    rw [hwc]
    clear hwc wc
    have hL9 : LKS C w w9 w15 p (crashL d3 kp) cb F15 (dn3.take nn) (us3.take nn) _ (.slice (some ⟨mg, 0, none⟩) (nn + 1) mc) := ⟨hLT.K, crashL_ok HOK3.out kp, by rw [HRC.out, List.map_take, HSM3.out, List.map_take], HD.out.1, by rw [HRC.out]; exact MR.cut hLT.M hnn, HD.out.2, fun g hg => hLT.apm g hg⟩
    have c9 := HMK2.out nn hnn
    have HB9 : Hid (∀ W, Below w15.heap.size w15 W → (Calls Tryz.prog 25 #[.pointer (some ⟨cb, 0, none⟩)] W fun e w' => e = .returned (.int .i64 (sizeR (d3.recs.take nn) : Nat)) ∧ Below W.heap.size W w') ∧ (Calls Tryz.prog 24 #[.pointer (some ⟨cb, 0, none⟩)] W fun e w' => e = .returned (.int .i64 (sizeR (d3.recs.take nn) : Nat)) ∧ Below W.heap.size W w') ∧ W.cell? ⟨mg, nn, none⟩ = some (.int .i64 (sizeR (d3.recs.take nn) : Nat))) := fun W hb => by
      have h1 := CB (hL9.all hb).K hL9.ok HZ.out
      have h2 := CA (hL9.all hb).K hL9.ok HZ.out
      simp only [HBY.out.1] at h1
      simp only [HBY.out.2] at h2
      exact ⟨h1, h2, (hb.cell (p := ⟨mg, nn, none⟩) hmlt).trans c9⟩
    have hdl9 : (dn3.take nn).length ≤ t2 := by
      rw [List.length_take]
      omega
    clear hLT HD HRC HSM3 HOK3 HBY HMK HMK2 c9
    generalize sizeR (d3.recs.take nn) = zz at HB9
    generalize crashL d3 kp = d6 at hL9
    generalize dn3.take nn = dn6 at hL9 hdl9
    generalize us3.take nn = us6 at hL9
    go_upto_region 78 with fail
    have hLD := hL9.all ((Below.refl _ w15).drew)
    have hsD := C.since hLD.K
    have hxE := HXW.out _ hsD
    have q1 := redo_any p vc vs vw _ dn6 w15.drew HZ.out (HP.out.all hxE.below) (hLD.D.sts hxE.below) hLD.D.good (by rw [hLD.k]; exact hLD.ok.tm) (by omega)
    rw [hLD.k] at q1
    unfold plV at q1
    have HXC : Hid (∀ W, Below w15.drew.heap.size w15.drew W → W.cell? ⟨w.heap.size, 0, none⟩ = some vc ∧ W.cell? ⟨w.heap.size, 1, none⟩ = some (.int .i64 p.ticks) ∧ W.cell? ⟨w.heap.size, 2, none⟩ = some vs ∧ W.cell? ⟨w.heap.size, 3, none⟩ = some vw) := fun W hb => by
      have h := HXW.out W (hsD.trans (hb.mono hsD.size))
      exact ⟨h.c0, h.c1, h.c2, h.c3⟩
    have S0 := HXC.out _ (Below.refl _ _)
    have HAL : Hid (∀ W a, Below w15.drew.heap.size w15.drew W → RK W w15.drew.heap.size p vc vs vw (d6.k p) a → Calls Tryz.prog 29 #[.pointer (some ⟨cb, 0, none⟩), .pointer (some ⟨a.kb, 0, none⟩), .int .i64 (p.code.length : Nat)] W fun e w' => e = .returned (.bool true) ∧ Below W.heap.size W w') := fun W a hb hRK => alike_any CX CT (hLD.all hb).K hLD.ok HZ.out hRK
    have HL9 : Hid (LKS C w w9 w15 p d6 cb F15 dn6 us6 _ _) := hL9
    obtain ⟨ca, cc, hvc⟩ := HP.out.code.form
    have bD0 : Below w15.heap.size w15 w15.drew := (Below.refl _ _).drew
    clear hL9 hLD hsD hxE
    go_cut [40] from 315 to 322 (fun s40 wx => s40 = .bool true ∧ Below w15.heap.size w15 wx)
    case first =>
      as_aux_lemma =>
      subst hvc
      clear HL9 HB9
      go_region_held3 (fun W => W.cell? ⟨w.heap.size, 0, none⟩ = some (.slice ca p.code.length cc) ∧ W.cell? ⟨w.heap.size, 1, none⟩ = some (.int .i64 p.ticks) ∧ W.cell? ⟨w.heap.size, 2, none⟩ = some vs ∧ W.cell? ⟨w.heap.size, 3, none⟩ = some vw)
        (first | exact S0 | exact S1 | exact S2 | go_keep)
        (first
          | (go_at_call 27; refine q1.mono ?_; rintro e w25 ⟨a5, rfl, hRK5, b25⟩; clear q1; have S1 := HXC.out w25 b25; have q2 := HAL.out w25 a5 b25 hRK5)
          | (go_at_call 29; refine q2.mono ?_; rintro e w26 ⟨rfl, b26⟩; clear q2; have b256 := b25.trans (b26.mono b25.size); have S2 := HXC.out w26 b256))
      all_goals (
        go_wp2_with fail
        go_meet
        case rel => exact ⟨rfl, bD0.trans (b256.mono bD0.size)⟩)
    case rest =>
    obtain ⟨rfl, hbF⟩ := hcut
    clear HXC HAL S0 q1 bD0 hvc
    generalize wc = wG at *
    go_upto_region 79 with fail
    have bGD : Below w15.heap.size w15 wG.drew := hbF.drew
    have bDG : Below wG.heap.size wG wG.drew := (Below.refl _ _).drew
    obtain ⟨q1, _, S0⟩ := HB9.out wG.drew bGD
    have hzq : ((zz : Int) != (zz : Int)) = false := by simp
    have hix1 : (nn : Int) < ((nn + 1 : Nat) : Int) := by omega
    have hix2 : (nn : Int) < (nn : Int) + 1 := by omega
    go_cut [342] from 323 to 341 (fun s342 wx => s342 = .bool false ∧ Below wG.heap.size wG wx)
    case first =>
      as_aux_lemma =>
      clear HL9
      go_region_held3 (fun W => W.cell? ⟨mg, nn, none⟩ = some (.int .i64 (zz : Nat)))
        (first | exact S0 | exact S1 | exact S2 | go_keep)
        (first
          | (go_at_call 25; refine q1.mono ?_; rintro e w27 ⟨rfl, b27⟩; clear q1; have b27' := bGD.trans (b27.mono bGD.size); have S1 := (HB9.out w27 b27').2.2; have q2 := (HB9.out w27 b27').2.1)
          | (go_at_call 24; refine q2.mono ?_; rintro e w28 ⟨rfl, b28⟩; clear q2; have b28' := b27'.trans (b28.mono b27'.size); have S2 := (HB9.out w28 b28').2.2))
      all_goals (
        go_wp2_with fail
        go_meet
        case rel => exact ⟨by simp, (bDG.trans (b27.mono bDG.size)).trans (b28.mono (bDG.trans (b27.mono bDG.size)).size)⟩)
    case rest =>
    obtain ⟨rfl, hbH⟩ := hcut
    have HLH : Hid (LKS C w w9 wc p d6 cb F15 dn6 us6 _ _) := HL9.out.all (hbF.trans (hbH.mono hbF.size))
    clear HL9 HB9 q1 S0 bGD bDG hbF hbH
    go_step
    go_wp2_with fail
    go_roundw
    case rel => exact ⟨r + 1, t2, d6, F15, dn6, us6, by omega, by omega, rfl, by go_num, hdl9, HLH.out⟩
    case measure => simp [intOf]; omega
  obtain ⟨hk8, htl⟩ := hgo
  have hk8i : (k : Int) < 8 := by omega
  have htli : (t2 : Int) < (sts.length : Int) := by omega
  have hbW : Below w.heap.size w wr := (HXW.out _ (C.since hL3.K)).below
  obtain ⟨tb, tf, ua, uc, l, rfl, htlt, hll, ht0, hstp⟩ := HT.out.at htl
  have HTC : Hid (∀ W, Below w.heap.size w W → W.cell? ⟨tb, tf + t2, none⟩ = some (.slice ua l.length uc)) := fun W hb => (hb.cell (p := ⟨tb, _, none⟩) htlt).trans ht0
  have HSP : Hid (Stp w (.slice ua l.length uc) l) := hstp
  clear htlt ht0 hstp hll
  go_upto_region 27 with fail
  rename World => wA
  go_cut [152] from 130 to 151 (fun s152 wx => s152 = .bool false ∧ ∃ d' F', LKS C w w9 wx p d' cb F' dn3 us3 u21 u22)
  case first =>
    as_aux_lemma =>
    by_cases h1 : t2 < ys.length
    · have h1i : (t2 : Int) < (ys.length : Int) := by omega
      obtain ⟨yb, yo, y, rfl, hyc, hyx⟩ := HY.out.at hbW h1
      by_cases hy1 : y = 1
      · subst hy1
        have q1 := CS HG9.out hL3.K HZ.out hL3.ok
        have HCL : Hid (∀ w' F', C.K w9 w' p (syncL d3) cb F' → KTouch F3 wA w' → (∀ g ∈ F', g ∈ F3 ∨ wA.heap.size ≤ g) → LKS C w w9 w' p (syncL d3) cb F' dn3 us3 u21 u22) := fun w' F' a1 a2 a3 => hL3.call a1 a2 a3 (syncL_ok hL3.ok) (sync_recs d3)
        rcases syncE_or d3 with he | he
        · have hsb := sync_safe he
          rw [he, show wErr 0 = .nilIface from rfl] at q1
          have HRD : Hid (∀ w' F', C.K w9 w' p (syncL d3) cb F' → LOk p (syncL d3) ∧ ∀ W, Below w'.heap.size w' W → (Calls Tryz.prog 24 #[.pointer (some ⟨cb, 0, none⟩)] W fun e w'' => e = .returned (.int .i64 ((syncL d3).bytes : Nat)) ∧ Below W.heap.size W w'') ∧ (Calls Tryz.prog 25 #[.pointer (some ⟨cb, 0, none⟩)] W fun e w'' => e = .returned (.int .i64 ((syncL d3).bytes : Nat)) ∧ Below W.heap.size W w'')) := fun w' F' hK => ⟨syncL_ok hL3.ok, fun W hb => ⟨by
            have := CA (C.frame hK (KTouch.of (M := []) hb) (by simp)) (syncL_ok hL3.ok) HZ.out
            simp only [hsb] at this
            exact this, CB (C.frame hK (KTouch.of (M := []) hb) (by simp)) (syncL_ok hL3.ok) HZ.out⟩⟩
          have hq1 : (((syncL d3).bytes : Int) != ((syncL d3).bytes : Int)) = false := by simp
          clear hL3 he hsb hyx
          generalize (syncL d3).bytes = X at *
          go_wp2_with (first
            | (go_at_call 20; refine q1.mono ?_; rintro e w13 ⟨rfl, F13, hK13, tk13, hn13⟩; clear q1; have q2 := ((HRD.out w13 F13 hK13).2 w13 (Below.refl _ _)).1)
            | (go_at_call 24; refine q2.mono ?_; rintro e w14 ⟨rfl, b14⟩; clear q2; have q3 := ((HRD.out w13 F13 hK13).2 w14 b14).2)
            | (go_at_call 25; refine q3.mono ?_; rintro e w15 ⟨rfl, b15⟩; clear q3))
          go_meet
          case rel => exact ⟨rfl, _, F13, (HCL.out w13 F13 hK13 tk13 hn13).all (b14.trans (b15.mono b14.size))⟩
        · rw [he, wErr_not (by decide)] at q1
          clear hL3 he hyx
          go_wp2_with (go_at_call 20; refine q1.mono ?_; rintro e w13 ⟨rfl, F13, hK13, tk13, hn13⟩; clear q1)
          go_meet
          case rel => exact ⟨rfl, _, F13, HCL.out w13 F13 hK13 tk13 hn13⟩
      · have hyf : (y == 1) = false := by simpa using hy1
        have HLS : Hid (LKS C w w9 wA p d3 cb F3 dn3 us3 u21 u22) := hL3
        clear hL3 hy1 hyx
        go_wp2_with fail
        go_meet
        case rel => exact ⟨rfl, d3, F3, HLS.out⟩
    · have h1' : decide ((t2 : Int) < (ys.length : Int)) = false := decide_eq_false (by omega)
      have h1n : decide (t2 < ys.length) = false := decide_eq_false h1
      have HLS : Hid (LKS C w w9 wA p d3 cb F3 dn3 us3 u21 u22) := hL3
      clear hL3
      go_wp2_with fail
      go_meet
      case rel => exact ⟨rfl, d3, F3, HLS.out⟩
  case rest =>
  obtain ⟨rfl, d4, F4, hL4⟩ := hcut
  clear hL3 hbW
  generalize wc = wB at *
  go_step
  go_upto_region 30 with fail
  have hbA : Below wB.heap.size wB (wB.alloc (.cells #[.int .i64 0, .int .i64 0, .int .i64 0] 60)) := (Below.refl _ _).alloc (Nat.le_refl _) _
  have hv0 : V3 (wB.alloc (.cells #[.int .i64 0, .int .i64 0, .int .i64 0] 60)) wB.heap.size (got3 l 0) := World.alloc_heap_new wB _
  have hnw := hL4.newer (M := [wB.heap.size]) (by simp)
  replace hL4 := hL4.all hbA
  clear hbA
  generalize wB.alloc (.cells #[.int .i64 0, .int .i64 0, .int .i64 0] 60) = wC at hv0 hL4 ⊢
  generalize wB.heap.size = vb at hv0 hnw ⊢
  go_upto_region 31 with fail
  go_loopw [27] (fun s wr => ∃ j : Nat, j ≤ 3 ∧ s = .int .i64 j ∧ V3 wr vb (got3 l j) ∧ KTouch [vb] wC wr) (fun s _ => 3 - (intOf s).toNat)
  case atStart => exact ⟨0, Nat.zero_le _, rfl, hv0, KTouch.refl _ _⟩
  case round =>
  clear hv0
  obtain ⟨j, hj, rfl, hv, tk⟩ := hrel
  have hbC : Below w.heap.size w wC := (HXW.out _ (C.since hL4.K)).below
  have hvw : w9.heap.size ≤ vb := (hnw.1 vb (by simp)).2
  have hbw : Below w.heap.size w wr := hbC.trans (tk.below (by simp; omega) hbC.size)
  have hcl := HTC.out wr hbw
  go_upto_region 31 with fail
  go_cut [163] from 153 to 162 (fun s163 wx => s163 = .bool (decide (j < min l.length 3)) ∧ wx = wr)
  case first =>
    as_aux_lemma =>
    clear hL4 hnw tk
    by_cases h1 : j < l.length
    · have h1' : (j : Int) < (l.length : Int) := by omega
      by_cases h2 : j < 3
      · have h2' : (j : Int) < 3 := by omega
        have HX : Hid (decide (j < min l.length 3) = true) := decide_eq_true (by omega)
        go_wp2_with fail
        go_meet
        case rel => exact ⟨by rw [HX.out], rfl⟩
      · obtain rfl : j = 3 := by omega
        rw [show ((3 : Nat) : Int) = 3 from rfl] at h1'
        have HX : Hid (decide (3 < min l.length 3) = false) := decide_eq_false (by omega)
        go_wp2_with fail
        go_meet
        case rel => exact ⟨by rw [HX.out], rfl⟩
    · have h1' : decide ((j : Int) < (l.length : Int)) = false := decide_eq_false (by omega)
      have h1n : decide (j < l.length) = false := decide_eq_false h1
      have HX : Hid (decide (j < min l.length 3) = false) := decide_eq_false (by omega)
      go_wp2_with fail
      go_meet
      case rel => exact ⟨by rw [HX.out], rfl⟩
  case rest =>
  obtain ⟨rfl, hwc⟩ := hcut
  rw [hwc]
  clear hwc wc
  by_cases hjm : j < min l.length 3
  case pos =>
    as_aux_lemma =>
    have hjl : j < l.length := by omega
    have hj4 : j < 3 := by omega
    have hji : (j : Int) < (l.length : Int) := by omega
    have hj4i : (j : Int) < 3 := by omega
    have hd : decide (j < min l.length 3) = true := decide_eq_true hjm
    rw [hd]
    obtain ⟨ub, uo, x, rfl, hxc, hlx⟩ := HSP.out.at hbw hjl
    have HLX : Hid (l[j]? = some x) := hlx
    have hcv := hv.at hj4
    have hfv := hv.fz j
    have HV : Hid (V3 wr vb (got3 l j)) := hv
    have HTK : Hid (KTouch [vb] wC wr) := tk
    clear hlx hv hd hbw hbC hL4 hnw tk
    go_wp2
    go_roundw
    case rel => exact ⟨j + 1, by omega, by go_num, (HV.out.set hj4 x).eq (fun q _ => got3_next HLX.out q), HTK.out.trans (KTouch.set _ (by simp) _ _)⟩
    case measure => simp [intOf]; omega
  have hd : decide (j < min l.length 3) = false := decide_eq_false hjm
  rw [hd]
  replace hv := hv.eq (got3_end hjm)
  have hL5 := hL4.frame tk hnw.1 hnw.2.1 hnw.2.2
  clear tk hbC hj hjm hd hL4 hnw
  rename World => wV
  have hx5 := HXW.out _ (C.since hL5.K)
  have k0 := hx5.c0
  have k1 := hx5.c1
  have k2 := hx5.c2
  have k3 := hx5.c3
  have q1 := redo_any p vc vs vw _ dn3 wV HZ.out (HP.out.all hbw) (hL5.D.sts hbw) hL5.D.good (by rw [hL5.k]; exact hL5.ok.tm) (by omega)
  rw [hL5.k] at q1
  unfold plV at q1
  have hnw5 := fun (M : List Nat) => hL5.newer (M := M)
  have hvlt := hv.lt
  go_upto_region 35 with (go_at_call 27; refine q1.mono ?_; rintro e w16 ⟨a, rfl, hRK, b16⟩; clear q1 k0 k1 k2 k3)
  have hL6 := hL5.all b16
  have q1 := CB hL6.K hL6.ok HZ.out
  go_upto_region 38 with (go_at_call 25; refine q1.mono ?_; rintro e w17 ⟨rfl, b17⟩; clear q1)
  have b167 := b16.trans (b17.mono b16.size)
  have hL7 := hL5.all b167
  have hcl7 := HTC.out w17 (hbw.trans (b167.mono hbw.size))
  have hv7 : V3 w17 vb (fun q => l.getD q 0) := (b167.block vb hv.lt).trans hv
  have hDo : DOne wV w17 p vc vs vw (d4.k p) a := (⟨hRK, redo_ok HZ.out _, b16, HP.out.all hbw⟩ : DOne wV w16 p vc vs vw (d4.k p) a).all b17
  have hba7 : Below w.heap.size w w17 := hbw.trans (b167.mono hbw.size)
  clear hL5 hL6 hcl hv hRK b16 b17 b167 hbw hx5
  go_cut [185] from 180 to 184 (fun s185 wx => s185 = .bool (decide (l.length = 1)) ∧ wx = w17)
  case first =>
    as_aux_lemma =>
    clear hL7 hv7 hDo hnw5
    by_cases h1 : l.length = 1
    · have h1i : ((l.length : Int) == 1) = true := by rw [h1]; rfl
      have h1n : (l.length == 1) = true := beq_iff_eq.2 h1
      have HX : Hid (decide (l.length = 1) = true) := decide_eq_true h1
      go_wp2_with fail
      go_meet
      case rel => exact ⟨by rw [HX.out], rfl⟩
    · have h1i : ((l.length : Int) == 1) = false := beq_eq_false_iff_ne.2 (by omega)
      have h1n : (l.length == 1) = false := beq_eq_false_iff_ne.2 h1
      have HX : Hid (decide (l.length = 1) = false) := decide_eq_false h1
      go_wp2_with fail
      go_meet
      case rel => exact ⟨by rw [HX.out], rfl⟩
  case rest =>
  obtain ⟨rfl, hwc⟩ := hcut
  rw [hwc]
  clear hwc wc hcl7
  go_step
  rename World => wK
  go_cut [30, 31] from 185 to 221 (fun s30 s31 wx => ∃ d' F' e er, s30 = .int .i64 e ∧ s31 = wErr er ∧ Stepd p d4 d' l e er ∧ LKT C w w9 wx p d4 d' cb F' dn3 us3 u21 u22 ∧ Below w.heap.size w wx)
  case first =>
    as_aux_lemma =>
    by_cases hl1 : l.length = 1
    · have hd1 : decide (l.length = 1) = true := decide_eq_true hl1
      rw [hd1]
      obtain ⟨y0, _, _⟩ := hv7.cs
      have HGO : Hid (∀ W, Below wK.heap.size wK W → Calls Tryz.prog 19 #[.pointer (some ⟨cb, 0, none⟩), .int .i64 (l.getD 0 0)] W fun e w' => e = .returned (wErr (goEnd p d4 (l.getD 0 0))) ∧ ∃ d' F', Stepd p d4 d' l (gdE (d4.k p).time (l.getD 0 0)) (goEnd p d4 (l.getD 0 0)) ∧ LKT C w w9 w' p d4 d' cb F' dn3 us3 u21 u22 ∧ Below w.heap.size w w') := fun W hb => by
        have h := hL7.all hb
        refine (C.go (l.getD 0 0) HG9.out h.K HZ.out h.ok).mono ?_
        rintro e w' ⟨rfl, sz, F', h2, h3, hK', tk', hn'⟩
        have hbW := hba7.trans (hb.mono hba7.size)
        have hln : d4.recs.length < 40 := by have := h.len; omega
        exact ⟨rfl, _, F', go_step h.ok h2 h3 hln hl1, h.went hK' tk' hn', hbW.trans (tk'.below (fun b hb => by have := (C.ge h.K b hb).1; omega) hbW.size)⟩
      have c6 := hDo.R.c6
      have htm := hL7.ok.tm
      have ht0 := hDo.ok.time
      have HGD : Hid (gdE (d4.k p).time (l.getD 0 0) = if l.getD 0 0 < 0 ∨ 100 < l.getD 0 0 then 1 else if 2000 < (d4.k p).time + l.getD 0 0 then 4 else 0) := rfl
      clear hL7 hDo hnw5 hv7 hd1
      generalize l.getD 0 0 = v0 at HGO HGD y0
      generalize (d4.k p).time = tm at HGO c6 htm ht0 HGD
      by_cases hlo : v0 < 0
      · have hloD : decide (v0 < 0) = true := decide_eq_true hlo
        have q1 := HGO.out wK (Below.refl _ _)
        have HG1 : Hid (gdE tm v0 = 1) := by
          show _ = _
          rw [HGD.out, if_pos (Or.inl hlo)]
        rw [HG1.out] at q1
        go_wp2_with (go_at_call 19; refine q1.mono ?_; rintro e w18 ⟨rfl, d5, F5, hSt, hLT, hb18⟩; clear q1)
        go_meet
        case rel => exact ⟨d5, F5, 1, _, rfl, rfl, hSt, hLT, hb18⟩
      · have hloD : decide (v0 < 0) = false := decide_eq_false hlo
        by_cases hhi : 100 < v0
        · have hhiD : decide (100 < v0) = true := decide_eq_true hhi
          have q1 := HGO.out wK (Below.refl _ _)
          have HG1 : Hid (gdE tm v0 = 1) := by
            show _ = _
            rw [HGD.out, if_pos (Or.inr hhi)]
          rw [HG1.out] at q1
          go_wp2_with (go_at_call 19; refine q1.mono ?_; rintro e w18 ⟨rfl, d5, F5, hSt, hLT, hb18⟩; clear q1)
          go_meet
          case rel => exact ⟨d5, F5, 1, _, rfl, rfl, hSt, hLT, hb18⟩
        · have hhiD : decide (100 < v0) = false := decide_eq_false hhi
          have hwr : IntKind.i64.wrap (tm + v0) = tm + v0 := IntWalk.i64_in _ (by omega)
          have HY0 : Hid (∀ W, Below wK.heap.size wK W → W.cell? ⟨vb, 0, none⟩ = some (.int .i64 v0)) := fun W hb => (hb.cell (p := ⟨vb, 0, none⟩) (wlt y0)).trans y0
          go_upto_region 41 with fail
          go_cut [201] from 194 to 200 (fun s201 wx => s201 = .bool (decide (2000 < tm + v0)) ∧ Below wK.heap.size wK wx)
          case first =>
            as_aux_lemma =>
            go_quiet (fail)
            go_wp2_with fail
            go_meet
            case rel => exact ⟨by simp, below_dN (Below.refl _ _) _⟩
          case rest =>
          obtain ⟨rfl, hbQ⟩ := hcut
          have q1 := HGO.out wc hbQ
          replace y0 := HY0.out wc hbQ
          clear c6
          by_cases hfl : 2000 < tm + v0
          · rw [decide_eq_true hfl]
            have HG1 : Hid (gdE tm v0 = 4) := by
              show _ = _
              rw [HGD.out, if_neg (by omega), if_pos hfl]
            rw [HG1.out] at q1
            go_wp2_with (go_at_call 19; refine q1.mono ?_; rintro e w18 ⟨rfl, d5, F5, hSt, hLT, hb18⟩; clear q1)
            go_meet
            case rel => exact ⟨d5, F5, 4, _, rfl, rfl, hSt, hLT, hb18⟩
          · rw [decide_eq_false hfl]
            have HG1 : Hid (gdE tm v0 = 0) := by
              show _ = _
              rw [HGD.out, if_neg (by omega), if_neg hfl]
            rw [HG1.out] at q1
            go_wp2_with (go_at_call 19; refine q1.mono ?_; rintro e w18 ⟨rfl, d5, F5, hSt, hLT, hb18⟩; clear q1)
            go_meet
            case rel => exact ⟨d5, F5, 0, _, rfl, rfl, hSt, hLT, hb18⟩
    · have hd1 : decide (l.length = 1) = false := decide_eq_false hl1
      rw [hd1]
      obtain ⟨y0, y1, y2⟩ := hv7.cs
      have q1 := d_poke (l.getD 0 0) (l.getD 1 0) (l.getD 2 0) hDo
      have HFR : Hid (∀ w', DWent wV wK w' p vc vs vw (pokeK (d4.k p) (l.getD 0 0) (l.getD 1 0) (l.getD 2 0)) a a → LKS C w w9 w' p d4 cb F4 dn3 us3 u21 u22 ∧ Below w.heap.size w w' ∧ V3 w' vb (fun q => l.getD q 0)) := fun w' h => by
        obtain ⟨z1, z2, z3⟩ := hnw5 a.m (fun m hm => hDo.R.mge m hm)
        exact ⟨hL7.frame h.touch z1 z2 z3, hba7.trans (h.touch.below (fun m hm => by have := (z1 m hm).2; omega) hba7.size), (h.touch.block vb hv7.lt (fun hm => by have := hDo.R.mge vb hm; omega)).trans hv7⟩
      have HPK : Hid (∀ W, LKS C w w9 W p d4 cb F4 dn3 us3 u21 u22 → Calls Tryz.prog 21 #[.pointer (some ⟨cb, 0, none⟩), .int .i64 (l.getD 0 0), .int .i64 (l.getD 1 0), .int .i64 (l.getD 2 0)] W fun e w' => e = .returned (wErr (lpEnd p d4 (l.getD 0 0) (l.getD 1 0) (l.getD 2 0))) ∧ ∃ d' F', Stepd p d4 d' l (pokeN (d4.k p) (l.getD 0 0) (l.getD 1 0) (l.getD 2 0)) (lpEnd p d4 (l.getD 0 0) (l.getD 1 0) (l.getD 2 0)) ∧ LKT C w w9 w' p d4 d' cb F' dn3 us3 u21 u22 ∧ KTouch F4 W w') := fun W h => by
        refine (CP (l.getD 0 0) (l.getD 1 0) (l.getD 2 0) HG9.out h.K HZ.out h.ok).mono ?_
        rintro e w' ⟨rfl, sz, F', h2, h3, hK', tk', hn'⟩
        have hln : d4.recs.length < 40 := by have := h.len; omega
        exact ⟨rfl, _, F', poke_step h.ok h2 h3 hln hl1, h.went hK' tk' hn', tk'⟩
      have HGE : Hid (∀ W, LKS C w w9 W p d4 cb F4 dn3 us3 u21 u22 → ∀ b ∈ F4, w.heap.size ≤ b) := fun W h b hb => by
        have := (C.ge h.K b hb).1
        omega
      clear hL7 hDo hnw5 hv7 hd1
      generalize hg0 : l.getD 0 0 = v0 at q1 HFR HPK y0
      generalize hg1 : l.getD 1 0 = v1 at q1 HFR HPK y1
      generalize hg2 : l.getD 2 0 = v2 at q1 HFR HPK y2
      have HV3 : Hid (∀ W, V3 W vb (fun q => l.getD q 0) → W.cell? ⟨vb, 0, none⟩ = some (.int .i64 v0) ∧ W.cell? ⟨vb, 1, none⟩ = some (.int .i64 v1) ∧ W.cell? ⟨vb, 2, none⟩ = some (.int .i64 v2)) := fun W h => by
        rw [← hg0, ← hg1, ← hg2]
        exact h.cs
      clear hg0 hg1 hg2
      go_wp2_with (first
        | (go_at_call 28; refine q1.mono ?_; rintro e w18 ⟨rfl, hW⟩; clear q1 y0 y1 y2; obtain ⟨hL8, hb8, hv8⟩ := HFR.out w18 hW; clear hW; obtain ⟨y0, y1, y2⟩ := HV3.out w18 hv8; have q2 := HPK.out w18 hL8; have HB8 : Hid (Below w.heap.size w w18) := hb8; have HF8 : Hid (∀ b ∈ F4, w.heap.size ≤ b) := HGE.out w18 hL8; clear hL8 hv8 hb8)
        | (go_at_call 21; refine q2.mono ?_; rintro e w19 ⟨rfl, d5, F5, hSt, hLT, tk19⟩; clear q2))
      go_meet
      case rel => exact ⟨d5, F5, _, _, rfl, rfl, hSt, hLT, HB8.out.trans (tk19.below HF8.out HB8.out.size)⟩
  case rest =>
  obtain ⟨d5, F5, ee, er, rfl, rfl, hSt, hLT, hbD⟩ := hcut
  have hsame4 := hL7.same
  have hlen4 := hL7.len
  clear hL7 hDo hnw5 hv7 hba7
  generalize wc = wD at *
  go_step
  have q1 := HE.out er 6 wD hbD
  go_upto_region 48 with (first
    | (go_at_call 15; refine q1.mono ?_; rintro e w19 ⟨rfl, b19⟩; clear q1; have hb19 := hbD.trans (b19.mono hbD.size); have q2 := HE.out er ee w19 hb19)
    | (go_at_call 15; refine q2.mono ?_; rintro e w20 ⟨rfl, b20⟩; clear q2))
  have hLT2 := hLT.all (b19.trans (b20.mono b19.size))
  have hb20 := hb19.trans (b20.mono hb19.size)
  clear hLT hbD hb19 b19 b20
  obtain ⟨b6, hb6⟩ : ∃ b, b = decide (er = 6) := ⟨_, rfl⟩
  obtain ⟨be, hbe⟩ : ∃ b, b = decide (er = ee) := ⟨_, rfl⟩
  obtain ⟨Y, hY'⟩ : ∃ Y, Y = d4.bytes := ⟨_, rfl⟩
  rw [← hb6, ← hbe, ← hY']
  have HYB : Hid (Y = d4.bytes) := hY'
  clear hY'
  have hor : b6 = true ∨ be = true := by
    rcases hSt.err with h | h
    · exact Or.inl (by rw [hb6]; exact decide_eq_true h)
    · exact Or.inr (by rw [hbe]; exact decide_eq_true h)
  clear hb6 hbe
  -- MARK
  go_cut [232] from 227 to 231 (fun s232 wx => s232 = .bool false ∧ wx = w20)
  case first =>
    as_aux_lemma =>
    clear hLT2 hSt
    cases b6 with
    | true =>
      go_wp2_with fail
      go_meet
      case rel => exact ⟨rfl, rfl⟩
    | false =>
      obtain rfl : be = true := by simpa using hor
      go_wp2_with fail
      go_meet
      case rel => exact ⟨rfl, rfl⟩
  case rest =>
  obtain ⟨rfl, hwc⟩ := hcut
  rw [hwc]
  clear hwc wc hor
  go_step
  go_upto_region 50 with fail
  obtain ⟨ev, hev⟩ : ∃ ev, ev = wErr er := ⟨_, rfl⟩
  rw [← hev]
  go_cut [234] from 233 to 233 (fun s234 wx => s234 = .bool (decide (er = 0)) ∧ wx = w20)
  case first =>
    as_aux_lemma =>
    clear hLT2 hSt
    by_cases h0 : er = 0
    · have HX : Hid (decide (er = 0) = true) := decide_eq_true h0
      rw [h0, show wErr 0 = .nilIface from rfl] at hev
      subst hev
      go_wp2_with fail
      go_meet
      case rel => exact ⟨by rw [HX.out], rfl⟩
    · have HX : Hid (decide (er = 0) = false) := decide_eq_false h0
      rw [wErr_not h0] at hev
      subst hev
      go_wp2_with fail
      go_meet
      case rel => exact ⟨by rw [HX.out], rfl⟩
  case rest =>
  obtain ⟨rfl, hwc⟩ := hcut
  rw [hwc]
  clear hwc wc hev
  go_step
  go_cut [21, 22] from 234 to 251 (fun s21 s22 wx => ∃ dn' us', dn'.length ≤ t2 + 1 ∧ LKS C w w9 wx p d5 cb F5 dn' us' s21 s22)
  case first =>
    as_aux_lemma =>
    by_cases h0 : er = 0
    · rw [decide_eq_true h0]
      obtain ⟨sz, h2, h3, hrecs, hbytes, hbs, hx1⟩ := hSt.yes h0
      have HOK : Hid (LOk p d5) := hSt.ok
      have HRC : Hid (d5.recs = d4.recs ++ [(stepOf l, sz)]) := hrecs
      have HX1 : Hid (l.length = 1 → 0 ≤ l.getD 0 0 ∧ l.getD 0 0 ≤ 100) := hx1
      have HSM : Hid (d5.recs.map (·.1) = (dn3 ++ [l]).map stepOf) := by
        show _ = _
        rw [hrecs, List.map_append, List.map_append, hsame4]
        rfl
      have HBY : Hid (d5.bytes = sizeR d4.recs + sz) := by
        show _ = _
        rw [hbytes, hbs]
      have hbl := bytes_le hSt.ok
      have hrl : d5.recs.length = d4.recs.length + 1 := by rw [hrecs]; simp
      have hul : us3.length ≤ 48 := by
        rw [hLT2.D.len]
        omega
      have q1 : Calls Tryz.prog 25 #[.pointer (some ⟨cb, 0, none⟩)] w20 fun e w' => e = .returned (.int .i64 (d5.bytes : Nat)) ∧ Below w20.heap.size w20 w' := CB hLT2.K hSt.ok HZ.out
      obtain ⟨ii, hi, hz0, hz1, hz2⟩ := info_parts infoInt
      obtain ⟨jj, hj', hy0, hy1, hy2⟩ := info_parts infoLg
      obtain ⟨X, hX⟩ : ∃ X, X = d5.bytes := ⟨_, rfl⟩
      rw [← hX] at q1 hbytes hbl HBY
      rw [← HYB.out] at hbytes
      have HXB : Hid (X = d5.bytes) := hX
      have hwr : IntKind.i64.wrap ((Y : Int) + 2) = (Y : Int) + 2 := IntWalk.i64_in _ (by omega)
      have hlt2 : decide ((X : Int) < (Y : Int) + 2) = false := decide_eq_false (by omega)
      have hs20 : w9.heap.size ≤ w20.heap.size := (C.since hLT2.K).size
      have hbnd : d4.recs.length ≤ 48 := by omega
      clear hSt hrecs hx1 hsame4 hbs hX hbytes hbl hrl hlen4
      go_upto_region 53 with (go_at_call 25; refine q1.mono ?_; rintro e w21 ⟨rfl, b21⟩; clear q1)
      have hLT3 := hLT2.all b21
      have hb21 := hb20.trans (b21.mono hb20.size)
      have hcl := HTC.out w21 hb21
      have hs21 := b21.size
      clear hLT2
      go_wp2_with (at_builtin; refine wpList_append_at _ rfl _ _ 57 rfl w9.heap.size 58 jj _ 1 24 Tryz.underlying57 hj' hy0 hy1 hy2 rfl (by decide) _ _ _ rfl (hLT3.D.row.alloc _) ⟨w21.heap.size, 0, none⟩ 1 1 [.slice ua l.length uc] rfl rfl ?c1A ?c2A ?c3A ?c4A ?c5A ?_)
      case c1A => exact one_new_at rfl _ _
      case c2A => intro u hu; simp at hu; subst hu; rfl
      case c3A => unfold maxLen; omega
      case c4A => omega
      case c5A => simp; omega
      intro v1 w22 own22 hg22 hnw22
      have hLT4 := hLT3.put ((Below.refl _ _).alloc (Nat.le_refl _) _) hg22 HX1.out HSP.out own22 (fun g h => (hnw22 g h).imp_right (fun h => by omega))
      have q1 : Calls Tryz.prog 25 #[.pointer (some ⟨cb, 0, none⟩)] w22 fun e w' => e = .returned (.int .i64 (d5.bytes : Nat)) ∧ Below w22.heap.size w22 w' := CB hLT4.K HOK.out HZ.out
      rw [← HXB.out] at q1
      clear own22 hg22 hnw22 hLT3 hcl
      go_upto_region 54 with fail
      go_wp2_with (first
        | (go_at_call 25; refine q1.mono ?_; rintro e w23 ⟨rfl, b23⟩; clear q1; have hLT5 := hLT4.all b23; have hs23 : w9.heap.size ≤ w23.heap.size := (C.since hLT5.K).size; have hM5 : w23.ownsRow w9.heap.size 3 1 u22 (d4.recs.length + 1) (ints (marksR d4.recs)) := hLT5.M)
        | (at_builtin; refine wpList_append_at _ rfl _ _ 58 rfl w9.heap.size 3 ii (.int .i64 0) 1 8 Tryz.underlying58 hi hz0 hz1 hz2 rfl (by decide) _ _ _ rfl (hM5.alloc _) ⟨w23.heap.size, 0, none⟩ 1 1 [.int .i64 (X : Nat)] rfl rfl ?c1A ?c2A ?c3A ?c4A ?c5A ?_))
      case c1A => exact one_new_at rfl _ _
      case c2A => intro u hu; simp at hu; subst hu; rfl
      case c3A => unfold maxLen; omega
      case c4A => omega
      case c5A => simp; omega
      intro v2 w24 own24 hg24 hnw24
      have HL9 : Hid (LKS C w w9 w24 p d5 cb F5 (dn3 ++ [l]) (us3 ++ [.slice ua l.length uc]) v1 v2) := by
        refine hLT5.mark (sz := sz) (s := stepOf l) ((Below.refl _ _).alloc (Nat.le_refl _) _) hg24 ?_ (fun g h => (hnw24 g h).imp_right (fun h => by omega)) HRC.out HOK.out HSM.out
        rw [ints_snoc, ← HBY.out]
        exact own24
      clear own24 hg24 hnw24 hLT4 hLT5 hM5
      go_wp2_with fail
      go_meet
      case rel => exact ⟨_, _, by simp; omega, HL9.out⟩
    · rw [decide_eq_false h0]
      have HL9 : Hid (LKS C w w9 w20 p d5 cb F5 dn3 us3 u21 u22) := hLT2.stay hsame4 hSt.ok (hSt.no h0)
      clear hLT2 hSt
      go_wp2_with fail
      go_meet
      case rel => exact ⟨_, _, by omega, HL9.out⟩
  case rest =>
  obtain ⟨dn5, us5, hdl5, hL8⟩ := hcut
  clear hLT2 hSt hsame4 hlen4 hb20 HYB
  generalize wc = wE at *
  go_step
  go_upto_region 56 with fail
  have hLD := hL8.all ((Below.refl _ wE).drew)
  have hsD := C.since hLD.K
  have hxE := HXW.out _ hsD
  have q1 := redo_any p vc vs vw _ dn5 wE.drew HZ.out (HP.out.all hxE.below) (hLD.D.sts hxE.below) hLD.D.good (by rw [hLD.k]; exact hLD.ok.tm) (by omega)
  rw [hLD.k] at q1
  unfold plV at q1
  have HXC : Hid (∀ W, Below wE.drew.heap.size wE.drew W → W.cell? ⟨w.heap.size, 0, none⟩ = some vc ∧ W.cell? ⟨w.heap.size, 1, none⟩ = some (.int .i64 p.ticks) ∧ W.cell? ⟨w.heap.size, 2, none⟩ = some vs ∧ W.cell? ⟨w.heap.size, 3, none⟩ = some vw) := fun W hb => by
    have h := HXW.out W (hsD.trans (hb.mono hsD.size))
    exact ⟨h.c0, h.c1, h.c2, h.c3⟩
  have S0 := HXC.out _ (Below.refl _ _)
  have HAL : Hid (∀ W a, Below wE.drew.heap.size wE.drew W → RK W wE.drew.heap.size p vc vs vw (d5.k p) a → Calls Tryz.prog 29 #[.pointer (some ⟨cb, 0, none⟩), .pointer (some ⟨a.kb, 0, none⟩), .int .i64 (p.code.length : Nat)] W fun e w' => e = .returned (.bool true) ∧ Below W.heap.size W w') := fun W a hb hRK => alike_any CX CT (hLD.all hb).K hLD.ok HZ.out hRK
  have HL8 : Hid (LKS C w w9 wE p d5 cb F5 dn5 us5 _ _) := hL8
  obtain ⟨ca, cc, hvc⟩ := HP.out.code.form
  have bD0 : Below wE.heap.size wE wE.drew := (Below.refl _ _).drew
  clear hL8 hLD hsD hxE
  go_cut [33] from 254 to 261 (fun s33 wx => s33 = .bool true ∧ Below wE.heap.size wE wx)
  case first =>
    as_aux_lemma =>
    subst hvc
    clear HL8
    go_region_held3 (fun W => W.cell? ⟨w.heap.size, 0, none⟩ = some (.slice ca p.code.length cc) ∧ W.cell? ⟨w.heap.size, 1, none⟩ = some (.int .i64 p.ticks) ∧ W.cell? ⟨w.heap.size, 2, none⟩ = some vs ∧ W.cell? ⟨w.heap.size, 3, none⟩ = some vw)
      (first | exact S0 | exact S1 | exact S2 | go_keep)
      (first
        | (go_at_call 27; refine q1.mono ?_; rintro e w25 ⟨a5, rfl, hRK5, b25⟩; clear q1; have S1 := HXC.out w25 b25; have q2 := HAL.out w25 a5 b25 hRK5)
        | (go_at_call 29; refine q2.mono ?_; rintro e w26 ⟨rfl, b26⟩; clear q2; have b256 := b25.trans (b26.mono b25.size); have S2 := HXC.out w26 b256))
    all_goals (
      go_wp2_with fail
      go_meet
      case rel => exact ⟨rfl, bD0.trans (b256.mono bD0.size)⟩)
  case rest =>
  obtain ⟨rfl, hbF⟩ := hcut
  have HLF : Hid (LKS C w w9 wc p d5 cb F5 dn5 us5 _ _) := HL8.out.all hbF
  clear HL8 HXC HAL S0 q1 bD0 hbF hvc
  go_step
  go_wp2_with fail
  go_roundw
  case rel => exact ⟨k + 1, t2 + 1, d5, F5, dn5, us5, by omega, by omega, by go_num, by go_num, hdl5, HLF.out⟩
  case measure => simp [intOf]; omega
end Go.Proofs.YtajfgmlockjmhaiGreatDoor
