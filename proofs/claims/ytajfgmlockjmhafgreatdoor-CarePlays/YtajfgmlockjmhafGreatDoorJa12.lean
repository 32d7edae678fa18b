/-
  KFrame, KRefTk, RCare0, RCare, CPlays0, CPlays, CarGP: joined into one text.
-/
import Derived.Test.YtajfgmlockjmhafGreatDoorKRefTick
import Derived.Test.YtajfgmlockjmhafGreatDoorKRefNew
import Derived.Deep.CutRange
import Derived.Deep.RegionWith
import Derived.BigQuiet
import Derived.RangeFuncNested
import Derived.Test.YtajfgmlockjmhafGreatDoorJa6
import Derived.Test.YtajfgmlockjmhafGreatDoorJa3
import Derived.Test.YtajfgmlockjmhafGreatDoorJa2
import Derived.Test.YtajfgmlockjmhafGreatDoorJa1
import Derived.Test.YtajfgmlockjmhafGreatDoorJa4
import Derived.Deep.RegionHeld3
import Derived.Test.YtajfgmlockjmhafGreatDoorJa11
namespace Go.Proofs.YtajfgmlockjmhafGreatDoor
open Go.RowKit

/-- The blocks of the document's kernel. -/
def KF (a : KW) : List Nat := a.kb :: a.rb :: a.lr :: (a.bs ++ a.us.filterMap Value.ownBlock)
theorem KF.m {a : KW} : ∀ g ∈ a.m, g ∈ KF a := fun g hg => by
  unfold KW.m at hg
  unfold KF
  simp only [List.mem_cons, List.mem_append] at hg ⊢
  rcases hg with h | h | h
  · exact Or.inl h
  · exact Or.inr (Or.inl h)
  · exact Or.inr (Or.inr (Or.inr (Or.inl h)))
theorem KF.us {a : KW} {us : List Value} {n : Nat} (h : ∀ u ∈ us, ∀ g, u.ownBlock = some g → OldU a g ∨ n ≤ g) : ∀ g ∈ KF { a with us := us }, g ∈ KF a ∨ n ≤ g := fun g hg => by
  unfold KF at hg ⊢
  simp only [List.mem_cons, List.mem_append, List.mem_filterMap] at hg ⊢
  rcases hg with h1 | h1 | h1 | h1 | ⟨u, h1, h2⟩
  · exact Or.inl (Or.inl h1)
  · exact Or.inl (Or.inr (Or.inl h1))
  · exact Or.inl (Or.inr (Or.inr (Or.inl h1)))
  · exact Or.inl (Or.inr (Or.inr (Or.inr (Or.inl h1))))
  · rcases h u h1 g h2 with ⟨u0, h3, h4⟩ | h3
    · exact Or.inl (Or.inr (Or.inr (Or.inr (Or.inr ⟨u0, h3, h4⟩))))
    · exact Or.inr h3
theorem RK.flt {w : World} {base : Nat} {p : PD} {vc vs vw : Value} {k : KD} {a : KW} (h : RK w base p vc vs vw k a) : ∀ g ∈ KF a, g < w.heap.size := fun g hg => by
  have hle := h.le
  unfold KF at hg
  simp only [List.mem_cons, List.mem_append, List.mem_filterMap] at hg
  rcases hg with h1 | h1 | h1 | h1 | ⟨u, h1, h2⟩
  · have := h.lt.1; omega
  · have := h.lt.2.1; omega
  · have := h.lt.2.2.1; omega
  · have := h.lt.2.2.2 g h1; omega
  · exact (h.rows u h1 g h2).2
/-- What is written elsewhere leaves it as it is. -/
theorem RK.frame {w w' : World} {base : Nat} {p : PD} {vc vs vw : Value} {k : KD} {a : KW} (h : RK w base p vc vs vw k a) {M : List Nat} (ht : KTouch M w w') (hM : ∀ m ∈ M, m ∉ KF a) : RK w' base p vc vs vw k a := by
  have hin : ∀ g, g ∈ KF a → w'.heap[g]? = w.heap[g]? := fun g hg => ht.block g (h.flt g hg) (fun hm => hM g hm hg)
  have m1 : a.kb ∈ KF a := by simp [KF]
  have m2 : a.rb ∈ KF a := by simp [KF]
  have m3 : a.lr ∈ KF a := by simp [KF]
  have m4 : ∀ b ∈ a.bs, b ∈ KF a := fun b hb => by simp [KF, hb]
  have m5 : ∀ u ∈ a.us, ∀ g, u.ownBlock = some g → g ∈ KF a := fun u hu g hg => by
    unfold KF
    simp only [List.mem_cons, List.mem_append, List.mem_filterMap]
    exact Or.inr (Or.inr (Or.inr (Or.inr ⟨u, hu, hg⟩)))
  have hc := fun o => World.cell?_of_block (w := w) (w' := w') (a := ⟨a.kb, o, none⟩) (hin _ m1)
  have hf := fun o => World.frozen?_of_block (w := w) (w' := w') (a := ⟨a.kb, o, none⟩) (hin _ m1)
  have hrf := fun o => World.frozen?_of_block (w := w) (w' := w') (a := ⟨a.rb, o, none⟩) (hin _ m2)
  have hlr := fun o => World.cell?_of_block (w := w) (w' := w') (a := ⟨a.lr, o, none⟩) (hin _ m3)
  refine ⟨(hc 0).trans h.c0, (hc 1).trans h.c1, (hc 2).trans h.c2, (hc 3).trans h.c3, (hc 4).trans h.c4, (hc 5).trans h.c5, (hc 6).trans h.c6, (hf 6).trans h.f6, fun i s hs => (h.rooms i s hs).block (hin _ m2), fun o => (hrf o).trans (h.rf o), h.lv, fun i b hi => (hlr i).trans (h.ptr i b hi), h.bl, h.ul, fun i l b u h1 h2 h3 => (h.line i l b u h1 h2 h3).touch ht (fun hm => ?_) (fun g hg hm => ?_), h.ge, h.lt, Nat.le_trans h.le ht.size, h.apart, h.two, h.ft.block (fun b hb => hin b (m4 b hb))⟩
  · exact hM b hm (m4 b (List.mem_of_getElem? h2))
  · exact hM g hm (m5 u (List.mem_of_getElem? h3) g hg)
theorem RK.lower {w : World} {base base' : Nat} {p : PD} {vc vs vw : Value} {k : KD} {a : KW} (h : RK w base p vc vs vw k a) (hb : base' ≤ base) : RK w base' p vc vs vw k a :=
  ⟨h.c0, h.c1, h.c2, h.c3, h.c4, h.c5, h.c6, h.f6, h.rooms, h.rf, h.lv, h.ptr, h.bl, h.ul, h.line, ⟨Nat.le_trans hb h.ge.1, Nat.le_trans hb h.ge.2.1, fun b hm => Nat.le_trans hb (h.ge.2.2 b hm)⟩, h.lt, h.le, h.apart, h.two, h.ft⟩
end Go.Proofs.YtajfgmlockjmhafGreatDoor
namespace Go.Proofs.YtajfgmlockjmhafGreatDoor
open Go.RowKit

/-- Tick: by the plan's own spans. -/
theorem reftick_any (p : PD) (vc vw : Value) (sa : Option Addr) (sc : Nat) (k : KD) (a : KW) (base : Nat) (w : World) (hp : plchk p = 0) (hk : KOk p k) (ht : k.time < 100000000) (h : RK w base p vc (.slice sa p.spans.length sc) vw k a) (w0 : World) (hw00 : base = w0.heap.size) (hb0 : Below w0.heap.size w0 w) (hP : Pln w0 vc (.slice sa p.spans.length sc) vw p) :
    Calls Tryz.prog 27 #[.pointer (some ⟨a.kb, 0, none⟩)] w fun e w' => e = .returned (.agg #[.int .i64 (tickK p p.spans k).2.1, .int .i64 (tickK p p.spans k).2.2.1, .int .i64 (tickK p p.spans k).2.2.2.1, .int .i64 (tickK p p.spans k).2.2.2.2]) ∧ (∃ us, RK w' base p vc (.slice sa p.spans.length sc) vw (tickK p p.spans k).1 { a with us := us } ∧ ∀ u ∈ us, ∀ g, u.ownBlock = some g → OldU a g ∨ w.heap.size ≤ g) ∧ KTouch a.m w w' := by
  have hB : Below w.heap.size w (w.alloc (.cells #[.int .i64 0, .int .i64 0, .int .i64 0, .int .i64 0] 43)) := (Below.refl _ w).alloc (Nat.le_refl _) _
  have h1 := h.all hB
  have c2 := h1.c2
  have hq := tickby_any p vc (.slice sa p.spans.length sc) vw p.spans sa sc k a base _ hp hk ht h1 w0 hw00 (hb0.trans (hB.mono hb0.size)) hP.code hP.spans (fchk_zero (plchk_zero hp).2.2.1).2.2.1 (fun t => who_room hp t)
  obtain ⟨t1, ht1⟩ : ∃ x, (tickK p p.spans k).2.1 = x := ⟨_, rfl⟩
  obtain ⟨t2, ht2⟩ : ∃ x, (tickK p p.spans k).2.2.1 = x := ⟨_, rfl⟩
  obtain ⟨t3, ht3⟩ : ∃ x, (tickK p p.spans k).2.2.2.1 = x := ⟨_, rfl⟩
  obtain ⟨t4, ht4⟩ : ∃ x, (tickK p p.spans k).2.2.2.2 = x := ⟨_, rfl⟩
  obtain ⟨k', hk'⟩ : ∃ x, (tickK p p.spans k).1 = x := ⟨_, rfl⟩
  rw [ht1, ht2, ht3, ht4, hk'] at hq
  rw [ht1, ht2, ht3, ht4, hk']
  clear ht1 ht2 ht3 ht4 hk' hP hp hk
  have hmlt : w.heap.size ∉ a.m := fun hm => by have := h.mlt _ hm; have := h.le; omega
  have hle := h.le
  have hold : ∀ g, OldU a g → g < w.heap.size := fun g ⟨u, h2, h3⟩ => (h.rows u h2 g h3).2
  have hbox : (w.alloc (.cells #[.int .i64 0, .int .i64 0, .int .i64 0, .int .i64 0] 43)).heap[w.heap.size]? = some (.cells #[.int .i64 0, .int .i64 0, .int .i64 0, .int .i64 0] 43 (0, 0)) := World.alloc_heap_new w _
  go_enter Tryz.func27, Tryz.ntmps27
  have hst : ∀ w1 : World, KTouch a.m (w.alloc (.cells #[.int .i64 0, .int .i64 0, .int .i64 0, .int .i64 0] 43)) w1 → EvB w1 w.heap.size 0 0 0 0 := fun w1 hk => (hk.block _ (by simp) hmlt).trans hbox
  go_wp2_with (go_at_call 42; refine hq.mono ?_; rintro e w1 ⟨rfl, ⟨us, hr, hu⟩, tk⟩; clear hq; have hev := hst w1 tk; obtain ⟨v0, v1, v2, v3⟩ := hev.cs; obtain ⟨x0, x1, x2, x3⟩ := hev.fs)
  have tkE : KTouch [w.heap.size] w1 ((((w1.setCell ⟨w.heap.size, 0, none⟩ (.int .i64 t1)).setCell ⟨w.heap.size, 1, none⟩ (.int .i64 t2)).setCell ⟨w.heap.size, 2, none⟩ (.int .i64 t3)).setCell ⟨w.heap.size, 3, none⟩ (.int .i64 t4)) := (((KTouch.set w1 (by simp) 0 _).trans (KTouch.set _ (by simp) 1 _)).trans (KTouch.set _ (by simp) 2 _)).trans (KTouch.set _ (by simp) 3 _)
  have hu2 : ∀ u ∈ us, ∀ g, u.ownBlock = some g → OldU a g ∨ w.heap.size + 1 ≤ g := fun u h2 g hg => by
    have := hu u h2 g hg
    rw [World.size_alloc] at this
    exact this
  refine bodyPost_ret (v := .agg #[.int .i64 t1, .int .i64 t2, .int .i64 t3, .int .i64 t4]) ?_ rfl ⟨rfl, ⟨us, hr.touch tkE (fun m hm => ?_), fun u h2 g hg => (hu2 u h2 g hg).imp id (fun h => by omega)⟩, ((KTouch.of hB).trans tk).more tkE (by simp)⟩
  · simp [results, Tryz.results27, go_sem, v0, v1, v2, v3]
  · rw [List.mem_singleton] at hm
    subst hm
    refine ⟨hle, fun u h2 hg => ?_⟩
    rcases hu2 u h2 _ hg with h3 | h3
    · have := hold _ h3
      omega
    · omega
end Go.Proofs.YtajfgmlockjmhafGreatDoor
namespace Go.Proofs.YtajfgmlockjmhafGreatDoor
open Go.RowKit

structure RC (w : World) (base : Nat) (p : PD) (vc vs vw wv : Value) (most : Int) (d : CD) (a : KW) (mb tb tc : Nat) : Prop where
  k : RK w base p vc vs vw d.k a
  c0 : w.cell? ⟨mb, 0, none⟩ = some (.pointer (some ⟨a.kb, 0, none⟩))
  c1 : w.cell? ⟨mb, 1, none⟩ = some wv
  c2 : w.cell? ⟨mb, 2, none⟩ = some (.int .i64 most)
  c3 : w.cell? ⟨mb, 3, none⟩ = some (.slice (some ⟨tb, 0, none⟩) d.ts.length tc)
  ts : ∀ (i : Nat) t, d.ts[i]? = some t → w.cell? ⟨tb, i, none⟩ = some (.int .i64 t)
  tf : ∀ o, w.frozen? ⟨tb, o, none⟩ = false
  ge : base ≤ mb ∧ base ≤ tb
  lt : mb < w.heap.size ∧ tb < w.heap.size
  ap : mb ∉ KF a ∧ tb ∉ KF a ∧ mb ≠ tb
section
variable {w w' : World} {base : Nat} {p : PD} {vc vs vw wv : Value} {most : Int} {d : CD} {a : KW} {mb tb tc : Nat}
/-- The kernel of it is another one, what else it has is as it was. -/
theorem RC.kern (h : RC w base p vc vs vw wv most d a mb tb tc) {M : List Nat} (ht : KTouch M w w') (hM : ∀ m ∈ M, m ≠ mb ∧ m ≠ tb) {k' : KD} {a' : KW} (hk : RK w' base p vc vs vw k' a') (ha : a'.kb = a.kb) (hap : mb ∉ KF a' ∧ tb ∉ KF a') : RC w' base p vc vs vw wv most ⟨k', d.ts⟩ a' mb tb tc := by
  have hm : w'.heap[mb]? = w.heap[mb]? := ht.block mb h.lt.1 (fun e => (hM mb e).1 rfl)
  have hb : w'.heap[tb]? = w.heap[tb]? := ht.block tb h.lt.2 (fun e => (hM tb e).2 rfl)
  have hc := fun o => World.cell?_of_block (w := w) (w' := w') (a := ⟨mb, o, none⟩) hm
  have hd := fun o => World.cell?_of_block (w := w) (w' := w') (a := ⟨tb, o, none⟩) hb
  have hf := fun o => World.frozen?_of_block (w := w) (w' := w') (a := ⟨tb, o, none⟩) hb
  have hs := ht.size
  have h1 := h.lt
  exact ⟨hk, by rw [ha]; exact (hc 0).trans h.c0, (hc 1).trans h.c1, (hc 2).trans h.c2, (hc 3).trans h.c3, fun i t hi => (hd i).trans (h.ts i t hi), fun o => (hf o).trans (h.tf o), h.ge, ⟨by omega, by omega⟩, ⟨hap.1, hap.2, h.ap.2.2⟩⟩
/-- What is written elsewhere leaves it as it is. -/
theorem RC.frame (h : RC w base p vc vs vw wv most d a mb tb tc) {M : List Nat} (ht : KTouch M w w') (hM : ∀ m ∈ M, m ≠ mb ∧ m ≠ tb ∧ m ∉ KF a) : RC w' base p vc vs vw wv most d a mb tb tc :=
  h.kern ht (fun m hm => ⟨(hM m hm).1, (hM m hm).2.1⟩) (h.k.frame ht (fun m hm => (hM m hm).2.2)) rfl ⟨h.ap.1, h.ap.2.1⟩
theorem RC.all (h : RC w base p vc vs vw wv most d a mb tb tc) (hb : Below w.heap.size w w') : RC w' base p vc vs vw wv most d a mb tb tc := h.frame (KTouch.of (M := []) hb) (by simp)
/-- One room was helped once more. -/
theorem RC.tset (h : RC w base p vc vs vw wv most d a mb tb tc) {i : Nat} {t : Int} (hi : d.ts[i]? = some t) (n : Int) : RC (w.setCell ⟨tb, i, none⟩ (.int .i64 n)) base p vc vs vw wv most ⟨d.k, d.ts.set i n⟩ a mb tb tc := by
  have ht : KTouch [tb] w (w.setCell ⟨tb, i, none⟩ (.int .i64 n)) := KTouch.set w (by simp) _ _
  have hm : (w.setCell ⟨tb, i, none⟩ (.int .i64 n)).heap[mb]? = w.heap[mb]? := Below.heap_setCell _ _ _ _ h.ap.2.2
  have hc := fun o => World.cell?_of_block (w := w) (w' := w.setCell ⟨tb, i, none⟩ (.int .i64 n)) (a := ⟨mb, o, none⟩) hm
  have hil := (List.getElem?_eq_some_iff.1 hi).1
  refine ⟨h.k.frame ht (fun m hm => by rw [List.mem_singleton] at hm; subst hm; exact h.ap.2.1), (hc 0).trans h.c0, (hc 1).trans h.c1, (hc 2).trans h.c2, by simp only [List.length_set]; exact (hc 3).trans h.c3, fun j u hj => ?_, fun o => (World.frozen?_setCell _ _ _ _).trans (h.tf o), h.ge, by simpa using h.lt, h.ap⟩
  simp only at hj
  by_cases hij : i = j
  · subst hij
    rw [List.getElem?_set_self hil] at hj
    obtain rfl := Option.some.inj hj
    simp [go_sem, h.ts i t hi]
  · rw [List.getElem?_set_ne hij] at hj
    rw [setCell_far (fun e => hij e.symm)]
    exact h.ts j u hj
theorem RC.flt (h : RC w base p vc vs vw wv most d a mb tb tc) : ∀ g ∈ mb :: tb :: KF a, g < w.heap.size := fun g hg => by
  rcases List.mem_cons.1 hg with rfl | hg
  · exact h.lt.1
  · rcases List.mem_cons.1 hg with rfl | hg
    · exact h.lt.2
    · exact h.k.flt g hg
theorem RC.mge (h : RC w base p vc vs vw wv most d a mb tb tc) : ∀ g ∈ tb :: a.m, base ≤ g := fun g hg => by
  rcases List.mem_cons.1 hg with rfl | hg
  · exact h.ge.2
  · exact h.k.mge g hg
end
theorem mKF {a : KW} : a.kb ∈ KF a ∧ a.rb ∈ KF a := ⟨by simp [KF], by simp [KF]⟩
/-- A room of a kernel is another one: two of its cells are written. -/
theorem on_st {w : World} {b o : Nat} {s : St} (h : StC w b o s) (n : Int) : StC ((w.setCell ⟨b, o, none⟩ (.int .i64 n)).setCell ⟨b, o + 7, none⟩ (.bool false)) b o ⟨n, s.c, false⟩ := by
  obtain ⟨h0, h1, h2, h3, h4, h5, h6, h7⟩ := h
  refine ⟨?_, ?_, ?_, ?_, ?_, ?_, ?_, ?_⟩ <;> simp [go_sem, h0, h1, h2, h3, h4, h5, h6, h7]
theorem RK.on {w : World} {base : Nat} {p : PD} {vc vs vw : Value} {k : KD} {a : KW} (h : RK w base p vc vs vw k a) {r : Nat} {s : St} (hr : k.rooms[r]? = some s) (n : Int) : RK ((w.setCell ⟨a.rb, r * 8, none⟩ (.int .i64 n)).setCell ⟨a.rb, r * 8 + 7, none⟩ (.bool false)) base p vc vs vw ⟨k.rooms.set r ⟨n, s.c, false⟩, k.lines, k.time⟩ a :=
  h.room_at hr ((KTouch.set w (by simp) _ _).trans (KTouch.set _ (by simp) _ _)) (on_st (h.rooms r s hr) n) (fun i hi => by rw [setCell_far (by omega), setCell_far (by omega)]) (fun i => by simp only [World.frozen?_setCell])
end Go.Proofs.YtajfgmlockjmhafGreatDoor
namespace Go.Proofs.YtajfgmlockjmhafGreatDoor
open Go.RowKit

set_option maxRecDepth 100000 in
set_option maxHeartbeats 8000000 in
theorem rcare_tick (p : PD) (vc vw wv : Value) (sa : Option Addr) (sc : Nat) (what : List Int) (most : Int) (d : CD) (a : KW) (mb tb tc base : Nat) (w : World) (hc : carE p what most = 0) (hd : COk p what most d) (ht : d.k.time < 100000000) (h : RC w base p vc (.slice sa p.spans.length sc) vw wv most d a mb tb tc) (w0 : World) (hw00 : base = w0.heap.size) (hb0 : Below w0.heap.size w0 w) (hP : Pln w0 vc (.slice sa p.spans.length sc) vw p) (hwv : Stp w0 wv what) :
    Calls Tryz.prog 11 #[.pointer (some ⟨mb, 0, none⟩)] w fun e w' => e = .returned (evA (evC p what most d)) ∧ (∃ us, RC w' base p vc (.slice sa p.spans.length sc) vw wv most (tickC p what most d) { a with us := us } mb tb tc ∧ ∀ u ∈ us, ∀ g, u.ownBlock = some g → OldU a g ∨ w.heap.size ≤ g) ∧ KTouch (tb :: a.m) w w' := by
  obtain ⟨hp, hwl, hwr, hm0, hm1⟩ := carE_zero hc
  obtain ⟨wao, wcap, rfl⟩ := hwv.form
  obtain ⟨vca, vcc, rfl⟩ := hP.code.form
  have hfz := fchk_zero (plchk_zero hp).2.2.1
  have hB1 : Below w.heap.size w (w.alloc (.cells #[.int .i64 0, .int .i64 0, .int .i64 0, .int .i64 0] 43)) := (Below.refl _ w).alloc (Nat.le_refl _) _
  have hbox : (w.alloc (.cells #[.int .i64 0, .int .i64 0, .int .i64 0, .int .i64 0] 43)).heap[w.heap.size]? = some (.cells #[.int .i64 0, .int .i64 0, .int .i64 0, .int .i64 0] 43 (0, 0)) := World.alloc_heap_new w _
  generalize hW1 : w.alloc (.cells #[.int .i64 0, .int .i64 0, .int .i64 0, .int .i64 0] 43) = W1 at hB1 hbox
  have hs1 : W1.heap.size = w.heap.size + 1 := by rw [← hW1]; simp
  have D1 := h.all hB1
  have hb01 := hb0.trans (hB1.mono hb0.size)
  have HWho : Hid (∀ W, Below W1.heap.size W1 W → Calls Tryz.prog 26 #[.int .i64 p.ticks, .slice sa p.spans.length sc, .int .i64 d.k.time] W fun e w' => e = .returned (.int .i64 (whoK p d.k)) ∧ Below W.heap.size W w') := fun W hb => refwho_any p.ticks p.spans _ d.k.time W (hP.spans.all (hb01.trans (hb.mono hb01.size))) hfz.1 hfz.2.1 hd.k.time hfz.2.2.1
  have hwho := who_room hp (d.k.time % p.ticks)
  obtain ⟨r, hr⟩ : ∃ r, r = whoK p d.k := ⟨_, rfl⟩
  have hwr2 : -1 ≤ r ∧ (0 ≤ r → r.toNat < p.code.length) := by rw [hr]; exact hwho
  rw [← hr] at HWho
  have HR : Hid (whoK p d.k = r) := hr.symm
  clear hr hwho
  have HQ : Hid (∀ W, Below W1.heap.size W1 W → W.cell? ⟨mb, 0, none⟩ = some (.pointer (some ⟨a.kb, 0, none⟩)) ∧ W.cell? ⟨a.kb, 1, none⟩ = some (.int .i64 p.ticks) ∧ W.cell? ⟨a.kb, 2, none⟩ = some (.slice sa p.spans.length sc) ∧ W.cell? ⟨a.kb, 6, none⟩ = some (.int .i64 d.k.time)) := fun W hb => by
    have D := D1.all hb
    exact ⟨D.c0, D.k.c1, D.k.c2, D.k.c6⟩
  have hq := HQ.out
  have H : Hid (RC w base p (.slice vca p.code.length vcc) (.slice sa p.spans.length sc) vw (.slice wao what.length wcap) most d a mb tb tc) := h
  have HD1 : Hid (RC W1 base p (.slice vca p.code.length vcc) (.slice sa p.spans.length sc) vw (.slice wao what.length wcap) most d a mb tb tc) := D1
  have HBX : Hid (W1.heap[w.heap.size]? = some (.cells #[.int .i64 0, .int .i64 0, .int .i64 0, .int .i64 0] 43 (0, 0))) := hbox
  clear h D1 hbox
  obtain ⟨k', hk'⟩ : ∃ x, (tickK p p.spans (helpC p what most d).k).1 = x := ⟨_, rfl⟩
  obtain ⟨t1, ht1⟩ : ∃ x, (tickK p p.spans (helpC p what most d).k).2.1 = x := ⟨_, rfl⟩
  obtain ⟨t2, ht2⟩ : ∃ x, (tickK p p.spans (helpC p what most d).k).2.2.1 = x := ⟨_, rfl⟩
  obtain ⟨t3, ht3⟩ : ∃ x, (tickK p p.spans (helpC p what most d).k).2.2.2.1 = x := ⟨_, rfl⟩
  obtain ⟨t4, ht4⟩ : ∃ x, (tickK p p.spans (helpC p what most d).k).2.2.2.2 = x := ⟨_, rfl⟩
  have HK : Hid ((tickK p p.spans (helpC p what most d).k).1 = k' ∧ (tickK p p.spans (helpC p what most d).k).2.1 = t1 ∧ (tickK p p.spans (helpC p what most d).k).2.2.1 = t2 ∧ (tickK p p.spans (helpC p what most d).k).2.2.2.1 = t3 ∧ (tickK p p.spans (helpC p what most d).k).2.2.2.2 = t4) := ⟨hk', ht1, ht2, ht3, ht4⟩
  have hgo1 : evA (evC p what most d) = .agg #[.int .i64 t1, .int .i64 t2, .int .i64 t3, .int .i64 t4] := by
    unfold evA evC
    rw [ht1, ht2, ht3, ht4]
  have hgo2 : tickC p what most d = ⟨k', (helpC p what most d).ts⟩ := by
    unfold tickC
    rw [hk']
  rw [hgo1, hgo2]
  clear hgo1 hgo2 hk' ht1 ht2 ht3 ht4
  go_enter Tryz.func11, Tryz.ntmps11
  go_upto_region 1 with fail
  clear hW1
  have bcur : Below W1.heap.size W1 W1.drew := (Below.refl _ _).drew
  go_cut [3] from 5 to 28 (fun s3 wx => s3 = .int .i64 r ∧ Below W1.heap.size W1 wx)
  case first =>
    go_region_held3 (fun W => W.cell? ⟨mb, 0, none⟩ = some (.pointer (some ⟨a.kb, 0, none⟩)) ∧ W.cell? ⟨a.kb, 1, none⟩ = some (.int .i64 p.ticks) ∧ W.cell? ⟨a.kb, 2, none⟩ = some (.slice sa p.spans.length sc) ∧ W.cell? ⟨a.kb, 6, none⟩ = some (.int .i64 d.k.time))
      (first | with_reducible exact hq _ bcur | go_keep)
      (first
        | (go_at_call 26; refine (HWho.out _ bcur).mono ?_; rintro e wN ⟨rfl, bN⟩; replace bcur := bcur.trans (bN.mono bcur.size); clear bN))
    all_goals (go_wp2_with fail; go_meet; exact ⟨rfl, bcur⟩)
  case rest =>
  obtain ⟨rfl, hbc⟩ := hcut
  clear bcur hq HQ HWho
  have hsc := hbc.size
  have D2 := HD1.out.all hbc
  have hx2 : wc.heap[w.heap.size]? = some (.cells #[.int .i64 0, .int .i64 0, .int .i64 0, .int .i64 0] 43 (0, 0)) := (hbc.block w.heap.size (by omega)).trans HBX.out
  have tk2 : KTouch (tb :: a.m) w wc := KTouch.of (hB1.trans (hbc.mono hB1.size))
  generalize wc = W2 at *
  have hbw2 : Below w0.heap.size w0 W2 := hb01.trans (hbc.mono hb01.size)
  clear hbc
  have HRT : Hid (0 ≤ r → ∃ (rn : Nat) (s : St) (t wn : Int) (wb wo : Nat) (c : List O3), r = rn ∧ d.k.rooms[rn]? = some s ∧ d.ts[rn]? = some t ∧ what[rn]? = some wn ∧ p.code[rn]? = some c ∧ stOk s c.length = true ∧ (chk c).2 = 0 ∧ wao = some ⟨wb, wo, none⟩ ∧ wb < w0.heap.size ∧ w0.cell? ⟨wb, wo + rn, none⟩ = some (.int .i64 wn) ∧ caresB what most d rn = (s.f && (decide (0 < wn) && decide (t < most))) ∧ 0 ≤ t ∧ t ≤ most) := fun h0 => by
    obtain ⟨rn, rfl⟩ : ∃ n : Nat, r = n := ⟨r.toNat, by omega⟩
    have hrl : rn < p.code.length := by simpa using hwr2.2 h0
    have hs : d.k.rooms[rn]? = some (d.k.rooms[rn]'(by rw [hd.k.rl]; exact hrl)) := List.getElem?_eq_getElem _
    have ht' : d.ts[rn]? = some (d.ts[rn]'(by rw [hd.tl]; exact hrl)) := List.getElem?_eq_getElem _
    have hcd : p.code[rn]? = some p.code[rn] := List.getElem?_eq_getElem hrl
    obtain ⟨wb, wo, wn, e1, e2, e3⟩ := hwv.at (Below.refl _ _) (show rn < what.length by omega)
    have hlt : wb < w0.heap.size := World.block_lt_of_cell? w0 _ e2
    have hok := hd.ts rn _ ht'
    exact ⟨rn, _, _, wn, wb, wo, _, rfl, hs, ht', e3, hcd, hd.k.rooms rn _ _ hcd hs, codesE_zero (plchk_zero hp).2.2.2.2.2.2.1 _ (List.mem_of_getElem? hcd), e1, hlt, e2, by unfold caresB; simp only [List.getD, hs, ht', e3, Option.getD_some], hok.1, hok.2.1⟩
  have HP : Hid (Pln w0 (.slice vca p.code.length vcc) (.slice sa p.spans.length sc) vw p) := hP
  have hrk : d.k.rooms.length = p.code.length := hd.k.rl
  have htl : d.ts.length = p.code.length := hd.tl
  have hc5 : p.code.length ≤ 5 := (plchk_zero hp).1
  have HD2 : Hid (RC W2 base p (.slice vca p.code.length vcc) (.slice sa p.spans.length sc) vw (.slice wao what.length wcap) most d a mb tb tc) := D2
  have c0 := D2.c0
  have c1 := D2.c1
  have c2 := D2.c2
  have c3 := D2.c3
  have k4 := D2.k.c4
  have hrooms := D2.k.rooms
  have hts := D2.ts
  clear D2
  go_upto_region 2 with fail
  go_cut [67] from 29 to 66 (fun s67 wx => s67 = .bool (decide (0 ≤ r) && caresB what most d r.toNat) ∧ Below W2.heap.size W2 wx)
  case first =>
    by_cases h0 : 0 ≤ r
    · obtain ⟨rn, s, t, wn, wb, wo, c, rfl, hs, ht', hw, hcd, hok, hck, rfl, hwb, hwc, hcb, ht0, ht1⟩ := HRT.out h0
      have hrl : rn < p.code.length := (List.getElem?_eq_some_iff.1 hcd).1
      have hri : (rn : Int) < (d.k.rooms.length : Int) := by omega
      have hwi : (rn : Int) < (what.length : Int) := by omega
      have hti : (rn : Int) < (d.ts.length : Int) := by omega
      have h0' : decide ((0 : Int) ≤ (rn : Int)) = true := decide_eq_true h0
      have s7 := (hrooms rn s hs).f
      have wcl := (hbw2.cell (p := ⟨wb, wo + rn, none⟩) hwb).trans hwc
      have tcl := hts rn t ht'
      have HB : Hid ((decide ((0 : Int) ≤ (rn : Int)) && caresB what most d ((rn : Int)).toNat) = (s.f && (decide (0 < wn) && decide (t < most)))) := by
        show _ = _
        rw [Int.toNat_natCast, hcb, h0', Bool.true_and]
      clear hs ht' hw hcd hok hck hcb HRT hrooms hts hwr2
      cases hf : s.f with
      | false =>
        rw [hf] at s7 HB
        have HX : Hid ((decide ((0 : Int) ≤ (rn : Int)) && caresB what most d ((rn : Int)).toNat) = false) := by
          show _ = _
          rw [HB.out, Bool.false_and]
        clear hf HB
        go_quiet (fail)
        go_wp2_with fail
        go_meet
        case rel => exact ⟨by rw [HX.out], below_dN (Below.refl _ _) _⟩
      | true =>
        rw [hf] at s7 HB
        clear hf
        by_cases h1 : 0 < wn
        · have h1' : decide (0 < wn) = true := decide_eq_true h1
          by_cases h2 : t < most
          · have h2' : decide (t < most) = true := decide_eq_true h2
            have HX : Hid ((decide ((0 : Int) ≤ (rn : Int)) && caresB what most d ((rn : Int)).toNat) = true) := by
              show _ = _
              rw [HB.out, h1', h2']
              rfl
            clear HB
            go_quiet (fail)
            go_wp2_with fail
            go_meet
            case rel => exact ⟨by rw [HX.out], below_dN (Below.refl _ _) _⟩
          · have h2' : decide (t < most) = false := decide_eq_false h2
            have HX : Hid ((decide ((0 : Int) ≤ (rn : Int)) && caresB what most d ((rn : Int)).toNat) = false) := by
              show _ = _
              rw [HB.out, h1', h2']
              rfl
            clear HB
            go_quiet (fail)
            go_wp2_with fail
            go_meet
            case rel => exact ⟨by rw [HX.out], below_dN (Below.refl _ _) _⟩
        · have h1' : decide (0 < wn) = false := decide_eq_false h1
          have HX : Hid ((decide ((0 : Int) ≤ (rn : Int)) && caresB what most d ((rn : Int)).toNat) = false) := by
            show _ = _
            rw [HB.out, h1']
            rfl
          clear HB
          go_quiet (fail)
          go_wp2_with fail
          go_meet
          case rel => exact ⟨by rw [HX.out], below_dN (Below.refl _ _) _⟩
    · have h0' : decide ((0 : Int) ≤ r) = false := decide_eq_false h0
      have HX : Hid ((decide (0 ≤ r) && caresB what most d r.toNat) = false) := by
        show _ = _
        rw [h0', Bool.false_and]
      clear HRT hrooms hts hwr2 h0
      go_quiet (fail)
      go_wp2_with fail
      go_meet
      case rel => exact ⟨by rw [HX.out], below_dN (Below.refl _ _) _⟩
  case rest =>
  clear c0 c1 c2 c3 k4 hrooms hts
  obtain ⟨rfl, hb3⟩ := hcut
  have D3 := HD2.out.all hb3
  have hx3 := (hb3.block w.heap.size (by omega)).trans hx2
  have tk3 : KTouch (tb :: a.m) w wc := tk2.trans (KTouch.of hb3)
  have hbw3 : Below w0.heap.size w0 wc := hbw2.trans (hb3.mono hbw2.size)
  have hs3 : w.heap.size + 1 ≤ wc.heap.size := by have := hb3.size; omega
  clear hx2 tk2 hbw2 hb3 HD2 HD1 HBX hB1 hb01
  generalize wc = W3 at *
  clear hsc hs1
  go_step
  go_cut [4] from 67 to 141 (fun _ wx => RC wx base p (.slice vca p.code.length vcc) (.slice sa p.spans.length sc) vw (.slice wao what.length wcap) most (helpC p what most d) a mb tb tc ∧ KTouch (tb :: a.m) W3 wx)
  case first =>
    cases hB : (decide (0 ≤ r) && caresB what most d r.toNat) with
    | false =>
      have HX : Hid (helpC p what most d = d) := help_no (by
        rw [HR.out]
        rintro ⟨h1, h2⟩
        rw [h2, decide_eq_true h1] at hB
        cases hB)
      have HD3 : Hid (RC W3 base p (.slice vca p.code.length vcc) (.slice sa p.spans.length sc) vw (.slice wao what.length wcap) most d a mb tb tc) := D3
      clear hB D3 HRT
      go_wp2_with fail
      go_meet
      case rel => exact ⟨by rw [HX.out]; exact HD3.out, KTouch.refl _ _⟩
    | true =>
      rw [Bool.and_eq_true, decide_eq_true_eq] at hB
      obtain ⟨h0, hcr⟩ := hB
      obtain ⟨rn, s, t, wn, wb, wo, c, rfl, hs, ht', hw, hcd, hok, hck, rfl, hwb, hwc, hcb, ht0, ht1⟩ := HRT.out h0
      rw [Int.toNat_natCast] at hcr
      have HX : Hid (helpC p what most d = ⟨⟨d.k.rooms.set rn (helpS p what rn s), d.k.lines, d.k.time⟩, d.ts.set rn (t + 1)⟩) := help_yes HR.out hs ht' hcr
      have HHS : Hid (helpS p what rn s = if wn = 1 then stNew else ⟨if s.p + 1 = (c.length : Int) then 0 else s.p + 1, s.c, false⟩) := by
        show _ = _
        unfold helpS
        simp only [List.getD, hw, hcd, Option.getD_some]
      obtain ⟨hsp0, hsp1, _⟩ := stOk_iff.1 hok
      have hcl : c.length ≤ 20 := (chk_zero hck).2.1
      have hrl : rn < p.code.length := (List.getElem?_eq_some_iff.1 hcd).1
      have hri : (rn : Int) < (d.k.rooms.length : Int) := by omega
      have hwi : (rn : Int) < (what.length : Int) := by omega
      have hti : (rn : Int) < (d.ts.length : Int) := by omega
      have c3 := D3.c3
      have tcl := D3.ts rn t ht'
      have tfz := D3.tf rn
      have D4 := D3.tset ht' (t + 1)
      have HSR : Hid (d.k.rooms[rn]? = some s) := hs
      have HCC : Hid (∀ W, Below w0.heap.size w0 W → ∃ cb co u g, vca = some ⟨cb, co, none⟩ ∧ W.cell? ⟨cb, co + rn, none⟩ = some (.slice u c.length g)) := fun W hb => by
        obtain ⟨cb, co, u, n, g, c', e1, hclt, hcy, hcc, rfl, _⟩ := HP.out.code.at hrl
        rw [hcd] at hcy
        obtain rfl := Option.some.inj hcy
        exact ⟨cb, co, u, g, e1, (hb.cell (p := ⟨cb, _, none⟩) hclt).trans hcc⟩
      clear hs ht' hw hcd hok hck hcb HRT hwr2 hcr h0
      go_upto_region 4 with fail
      have hbw4 : Below w0.heap.size w0 (W3.setCell ⟨tb, rn, none⟩ (.int .i64 (t + 1))) := hbw3.setCell (p := ⟨tb, rn, none⟩) (by rw [← hw00]; exact D3.ge.2) _
      have tk4 : KTouch (tb :: a.m) W3 (W3.setCell ⟨tb, rn, none⟩ (.int .i64 (t + 1))) := KTouch.set W3 (by simp) _ _
      clear D3 c3 tcl tfz hbw3 hx3 tk3
      generalize W3.setCell ⟨tb, rn, none⟩ (.int .i64 (t + 1)) = W4 at D4 hbw4 tk4 ⊢
      have HD4 : Hid (RC W4 base p (.slice vca p.code.length vcc) (.slice sa p.spans.length sc) vw (.slice (some ⟨wb, wo, none⟩) what.length wcap) most ⟨d.k, d.ts.set rn (t + 1)⟩ a mb tb tc) := D4
      have c0 := D4.c0
      have c1 := D4.c1
      have k0 := D4.k.c0
      have k4 := D4.k.c4
      simp only at k4
      have hst := D4.k.rooms rn s HSR.out
      have hrf := D4.k.rf
      have wcl := (hbw4.cell (p := ⟨wb, wo + rn, none⟩) hwb).trans hwc
      obtain ⟨cb, co, u, g, e1, hcc⟩ := HCC.out W4 hbw4
      have HNE : Hid (∀ m ∈ [a.rb], m ≠ mb ∧ m ≠ tb) := fun m hm => by
        rw [List.mem_singleton] at hm
        subst hm
        exact ⟨fun e => D4.ap.1 (by rw [← e]; exact mKF.2), fun e => D4.ap.2.1 (by rw [← e]; exact mKF.2)⟩
      clear D4 HCC
      by_cases hw1 : wn = 1
      · rw [hw1] at wcl
        have HY : Hid (helpS p what rn s = stNew) := by
          show _ = _
          rw [HHS.out, if_pos hw1]
        clear hw1 HHS e1 hcc
        have hth : W4.there a.rb (rn * 8) 8 := there_st hst hrf 0
        go_upto_region 5 with fail
        go_wp2_with (refine wpList_store_mid rfl 47 _ _ rfl a.rb (rn * 8) #[.int .i64 0, .int .i64 0, .int .i64 0, .int .i64 0, .int .i64 0, .int .i64 0, .int .i64 0, .bool false] rfl rfl hth (by kernel_rfl) (by simp [Value.oneCell']) ?_)
        go_meet
        case rel =>
          have D5 : RK (setSt W4 a.rb (rn * 8) stNew) base p (.slice vca p.code.length vcc) (.slice sa p.spans.length sc) vw ⟨d.k.rooms.set rn stNew, d.k.lines, d.k.time⟩ a := HD4.out.k.room_set HSR.out stNew
          have ht5 : KTouch [a.rb] W4 (setSt W4 a.rb (rn * 8) stNew) := setSt_touch W4 (by simp) _ _
          rw [HX.out, HY.out]
          exact ⟨HD4.out.kern ht5 HNE.out D5 rfl ⟨HD4.out.ap.1, HD4.out.ap.2.1⟩, tk4.trans (ht5.mono (by simp [KW.m]))⟩
      · have hw1' : (wn == 1) = false := by simpa using hw1
        obtain ⟨n, hn⟩ : ∃ n, n = (if s.p + 1 = (c.length : Int) then 0 else s.p + 1) := ⟨_, rfl⟩
        have HY : Hid (helpS p what rn s = ⟨n, s.c, false⟩) := by
          show _ = _
          rw [HHS.out, if_neg hw1, hn]
        have hci : (rn : Int) < (p.code.length : Int) := by omega
        subst e1
        have p0 := hst.p
        have p7 := hst.f
        have f0 := hrf (rn * 8)
        have f7 := hrf (rn * 8 + 7)
        have hn1 : a.rb ≠ mb := (HNE.out a.rb (by simp)).1
        have hn2 : a.rb ≠ a.kb := Ne.symm HD4.out.k.apart.1
        have HFin : Hid (RC ((W4.setCell ⟨a.rb, rn * 8, none⟩ (.int .i64 n)).setCell ⟨a.rb, rn * 8 + 7, none⟩ (.bool false)) base p (.slice (some ⟨cb, co, none⟩) p.code.length vcc) (.slice sa p.spans.length sc) vw (.slice (some ⟨wb, wo, none⟩) what.length wcap) most (helpC p what most d) a mb tb tc ∧ KTouch (tb :: a.m) W3 ((W4.setCell ⟨a.rb, rn * 8, none⟩ (.int .i64 n)).setCell ⟨a.rb, rn * 8 + 7, none⟩ (.bool false))) := by
          have D5 := HD4.out.k.on HSR.out n
          have ht5 : KTouch [a.rb] W4 ((W4.setCell ⟨a.rb, rn * 8, none⟩ (.int .i64 n)).setCell ⟨a.rb, rn * 8 + 7, none⟩ (.bool false)) := (KTouch.set W4 (by simp) _ _).trans (KTouch.set _ (by simp) _ _)
          show _ ∧ _
          rw [HX.out, HY.out]
          exact ⟨HD4.out.kern ht5 HNE.out D5 rfl ⟨HD4.out.ap.1, HD4.out.ap.2.1⟩, tk4.trans (ht5.mono (by simp [KW.m]))⟩
        clear hst hrf HHS HY hw1 HX tk4
        by_cases hend : s.p + 1 = (c.length : Int)
        · rw [if_pos hend] at hn
          subst hn
          have hend' : (s.p + 1 == (c.length : Int)) = true := by simpa using hend
          clear hend
          go_wp2_with fail
          go_meet
          case rel => exact HFin.out
        · rw [if_neg hend] at hn
          subst hn
          have hend' : (s.p + 1 == (c.length : Int)) = false := by simpa using hend
          clear hend
          go_wp2_with fail
          go_meet
          case rel => exact HFin.out
  case rest =>
  obtain ⟨D5, tk5⟩ := hcut
  generalize wc = W5 at *
  clear D3 HRT hwr2
  have hmlt : w.heap.size ∉ tb :: a.m := fun hm => by
    rcases List.mem_cons.1 hm with h1 | h1
    · have := H.out.lt.2
      omega
    · have := H.out.k.mlt _ h1
      have := H.out.k.le
      omega
  have hx5 : EvB W5 w.heap.size 0 0 0 0 := (tk5.block w.heap.size (by omega) hmlt).trans hx3
  have hb05 : Below w0.heap.size w0 W5 := hbw3.trans (tk5.below (fun b hb => by rw [← hw00]; exact D5.mge b hb) hbw3.size)
  have hs5 : w.heap.size + 1 ≤ W5.heap.size := by have := tk5.size; omega
  have tkA : KTouch (tb :: a.m) w W5 := tk3.trans tk5
  have q := reftick_any p (.slice vca p.code.length vcc) vw sa sc (helpC p what most d).k a base W5 hp (helpC_ok hp hd).k (by rw [help_time]; exact ht) D5.k w0 hw00 hb05 hP
  have c0 := D5.c0
  have HD5 : Hid (RC W5 base p (.slice vca p.code.length vcc) (.slice sa p.spans.length sc) vw (.slice wao what.length wcap) most (helpC p what most d) a mb tb tc) := D5
  obtain ⟨e0, e1, e2, e3, e4⟩ := HK.out
  rw [e0, e1, e2, e3, e4] at q
  clear e0 e1 e2 e3 e4
  clear D5 tk3 tk5 hx3 hbw3 hb05 hs3
  go_step
  go_wp2_with (go_at_call 27; refine q.mono ?_; rintro e w6 ⟨rfl, ⟨us, hr, hu⟩, tk6⟩; clear q; have hev : EvB w6 w.heap.size 0 0 0 0 := (tk6.block w.heap.size (by omega) (fun hm => hmlt (List.mem_cons.2 (Or.inr hm)))).trans hx5; obtain ⟨v0, v1, v2, v3⟩ := hev.cs; obtain ⟨x0, x1, x2, x3⟩ := hev.fs)
  have tkE : KTouch [w.heap.size] w6 ((((w6.setCell ⟨w.heap.size, 0, none⟩ (.int .i64 t1)).setCell ⟨w.heap.size, 1, none⟩ (.int .i64 t2)).setCell ⟨w.heap.size, 2, none⟩ (.int .i64 t3)).setCell ⟨w.heap.size, 3, none⟩ (.int .i64 t4)) := (((KTouch.set w6 (by simp) 0 _).trans (KTouch.set _ (by simp) 1 _)).trans (KTouch.set _ (by simp) 2 _)).trans (KTouch.set _ (by simp) 3 _)
  have hKF := KF.us hu
  have hl0 := H.out.lt
  have hnin : ∀ b, b < w.heap.size → b ∉ KF a → b ∉ KF { a with us := us } := fun b hb hn hm => by
    rcases hKF b hm with h1 | h1
    · exact hn h1
    · omega
  have R6 : RC w6 base p (.slice vca p.code.length vcc) (.slice sa p.spans.length sc) vw (.slice wao what.length wcap) most ⟨k', (helpC p what most d).ts⟩ { a with us := us } mb tb tc := HD5.out.kern tk6 (fun m hm => ⟨fun e => HD5.out.ap.1 (by rw [← e]; exact KF.m m hm), fun e => HD5.out.ap.2.1 (by rw [← e]; exact KF.m m hm)⟩) hr rfl ⟨hnin mb hl0.1 HD5.out.ap.1, hnin tb hl0.2 HD5.out.ap.2.1⟩
  refine bodyPost_ret (v := .agg #[.int .i64 t1, .int .i64 t2, .int .i64 t3, .int .i64 t4]) ?_ rfl ⟨rfl, ⟨us, R6.frame tkE (fun m hm => ?_), fun u h2 g hg => (hu u h2 g hg).imp id (fun h => by omega)⟩, (tkA.trans (tk6.mono (fun m hm => List.mem_cons.2 (Or.inr hm)))).more tkE (by simp)⟩
  · simp [results, Tryz.results11, go_sem, v0, v1, v2, v3]
  · rw [List.mem_singleton] at hm
    subst hm
    refine ⟨by omega, by omega, fun hm => ?_⟩
    rcases hKF _ hm with h1 | h1
    · have := H.out.k.flt _ h1
      omega
    · omega
end Go.Proofs.YtajfgmlockjmhafGreatDoor
namespace Go.Proofs.YtajfgmlockjmhafGreatDoor
open Go.RowKit

/-- What the laws of care ask of Poke. -/
def CarPoke {G : World → Prop} (C : CarC G) : Prop := ∀ {w0 W p what most d cb F} (r c n : Int), C.K w0 W p what most d cb F → COk p what most d → carE p what most = 0 → Calls Tryz.prog 8 #[.pointer (some ⟨cb, 0, none⟩), .int .i64 r, .int .i64 c, .int .i64 n] W fun e w' => e = .returned (wErr (pokeN d.k r c n)) ∧ ∃ F', C.K w0 w' p what most ⟨pokeK d.k r c n, d.ts⟩ cb F' ∧ KTouch F W w' ∧ ∀ g ∈ F', g ∈ F ∨ W.heap.size ≤ g
/-- Both are the same, and neither has what the other one has. -/
structure TwoC {G : World → Prop} (C : CarC G) (w0 wr : World) (p : PD) (vc vs vw wv : Value) (what : List Int) (most : Int) (d : CD) (cb : Nat) (F : List Nat) (a : KW) (mb tb tc : Nat) : Prop where
  K : C.K w0 wr p what most d cb F
  R : RC wr w0.heap.size p vc vs vw wv most d a mb tb tc
  ap : ∀ g ∈ F, g ∉ mb :: tb :: KF a
  ok : COk p what most d
  pln : Pln w0 vc vs vw p
  wht : Stp w0 wv what
/-- What came of a call on both. -/
structure WentC {G : World → Prop} (C : CarC G) (w0 W w' : World) (p : PD) (vc vs vw wv : Value) (what : List Int) (most : Int) (d' : CD) (cb : Nat) (F F' : List Nat) (a a' : KW) (mb tb tc : Nat) : Prop where
  two : TwoC C w0 w' p vc vs vw wv what most d' cb F' a' mb tb tc
  touch : KTouch (F ++ tb :: a.m) W w'
  new : ∀ g ∈ F' ++ mb :: tb :: KF a', g ∈ F ++ mb :: tb :: KF a ∨ W.heap.size ≤ g
  kb : a'.kb = a.kb
section
variable {G : World → Prop} {C : CarC G} {w0 wr w' W : World} {p : PD} {vc vs vw wv : Value} {what : List Int} {most : Int} {d d' : CD} {cb : Nat} {F F' : List Nat} {a a' : KW} {mb tb tc : Nat}
theorem TwoC.flt (h : TwoC C w0 wr p vc vs vw wv what most d cb F a mb tb tc) : ∀ g ∈ F ++ mb :: tb :: KF a, g < wr.heap.size := fun g hg => by
  rcases List.mem_append.1 hg with h1 | h1
  · exact (C.ge h.K g h1).2
  · exact h.R.flt g h1
theorem TwoC.all (h : TwoC C w0 wr p vc vs vw wv what most d cb F a mb tb tc) (hb : Below wr.heap.size wr w') : TwoC C w0 w' p vc vs vw wv what most d cb F a mb tb tc :=
  ⟨C.frame h.K (KTouch.of (M := []) hb) (by simp), h.R.all hb, h.ap, h.ok, h.pln, h.wht⟩
/-- A block of the caller's own is written. -/
theorem TwoC.set (h : TwoC C w0 wr p vc vs vw wv what most d cb F a mb tb tc) {b : Nat} (ht : KTouch [b] wr w') (hb : b ∉ F ++ mb :: tb :: KF a) (hw : w0.heap.size ≤ b) : TwoC C w0 w' p vc vs vw wv what most d cb F a mb tb tc := by
  rw [List.mem_append, List.mem_cons, List.mem_cons] at hb
  refine ⟨C.frame h.K ht (fun m hm => ?_), h.R.frame ht (fun m hm => ?_), h.ap, h.ok, h.pln, h.wht⟩
  · rw [List.mem_singleton] at hm
    subst hm
    exact ⟨fun e => hb (Or.inl e), hw⟩
  · rw [List.mem_singleton] at hm
    subst hm
    exact ⟨fun e => hb (Or.inr (Or.inl e)), fun e => hb (Or.inr (Or.inr (Or.inl e))), fun e => hb (Or.inr (Or.inr (Or.inr e)))⟩
theorem own_mc {b : Nat} (h : b ∈ F ++ tb :: a.m) : b ∈ F ++ mb :: tb :: KF a := by
  rw [List.mem_append, List.mem_cons] at h
  rw [List.mem_append, List.mem_cons, List.mem_cons]
  rcases h with h | h | h
  · exact Or.inl h
  · exact Or.inr (Or.inr (Or.inl h))
  · exact Or.inr (Or.inr (Or.inr (KF.m b h)))
theorem TwoC.mge (h : TwoC C w0 wr p vc vs vw wv what most d cb F a mb tb tc) : ∀ g ∈ F ++ tb :: a.m, w0.heap.size ≤ g := fun g hg => by
  rcases List.mem_append.1 hg with h1 | h1
  · exact (C.ge h.K g h1).1
  · exact h.R.mge g h1
theorem WentC.keep (h : WentC C w0 W w' p vc vs vw wv what most d' cb F F' a a' mb tb tc) {b : Nat} (hb : b < W.heap.size) (hn : b ∉ F ++ mb :: tb :: KF a) : w'.heap[b]? = W.heap[b]? ∧ b ∉ F' ++ mb :: tb :: KF a' := by
  refine ⟨h.touch.block b hb (fun hm => hn (own_mc hm)), fun hm => ?_⟩
  rcases h.new b hm with h1 | h1
  · exact hn h1
  · omega
theorem TwoC.apart (h : TwoC C w0 wr p vc vs vw wv what most d cb F a mb tb tc) : ∀ m ∈ F, m ≠ mb ∧ m ≠ tb ∧ m ∉ KF a := fun m hm => by
  have := h.ap m hm
  rw [List.mem_cons, List.mem_cons] at this
  exact ⟨fun e => this (Or.inl e), fun e => this (Or.inr (Or.inl e)), fun e => this (Or.inr (Or.inr e))⟩
/-- A poke of both, package care's first. -/
theorem two_cpoke (CP : CarPoke C) (hc : carE p what most = 0) (r c n : Int) (h : TwoC C w0 W p vc vs vw wv what most d cb F a mb tb tc) :
    Calls Tryz.prog 8 #[.pointer (some ⟨cb, 0, none⟩), .int .i64 r, .int .i64 c, .int .i64 n] W fun e w2 => e = .returned (wErr (pokeN d.k r c n)) ∧ KTouch F W w2 ∧
      ∀ w3, Below w2.heap.size w2 w3 → Calls Tryz.prog 9 #[.pointer (some ⟨a.kb, 0, none⟩), .int .i64 r, .int .i64 c, .int .i64 n] w3 fun e w' => e = .returned (.int .i64 (pokeN d.k r c n)) ∧ ∃ F', WentC C w0 W w' p vc vs vw wv what most ⟨pokeK d.k r c n, d.ts⟩ cb F F' a a mb tb tc := by
  refine (CP r c n h.K h.ok hc).mono ?_
  rintro e w2 ⟨rfl, F', hK', tk, hF'⟩
  refine ⟨rfl, tk, fun w3 b3 => ?_⟩
  have hR2 := (h.R.frame tk h.apart).all b3
  have hK3 := C.frame hK' (KTouch.of (M := []) b3) (by simp)
  have tk3 : KTouch F W w3 := tk.trans (KTouch.of b3)
  refine (refpoke_any p vc vs vw d.k a w0.heap.size r c n w3 hR2.k).mono ?_
  rintro e w' ⟨rfl, hk', tkr⟩
  have hF2 : ∀ g ∈ F', g ∉ mb :: tb :: KF a := fun g hg hm => by
    rcases hF' g hg with h1 | h1
    · exact h.ap g h1 hm
    · have := h.R.flt g hm
      omega
  have hmne : ∀ m ∈ a.m, m ≠ mb ∧ m ≠ tb := fun m hm => ⟨fun e => hR2.ap.1 (by rw [← e]; exact KF.m m hm), fun e => hR2.ap.2.1 (by rw [← e]; exact KF.m m hm)⟩
  refine ⟨rfl, F', ⟨C.frame hK3 tkr (fun m hm => ⟨fun hmf => hF2 m hmf (by rw [List.mem_cons, List.mem_cons]; exact Or.inr (Or.inr (KF.m m hm))), h.R.k.mge m hm⟩), hR2.kern tkr hmne hk' rfl ⟨hR2.ap.1, hR2.ap.2.1⟩, hF2, ⟨poke_ok h.ok.k r c n, h.ok.tl, h.ok.ts⟩, h.pln, h.wht⟩, (tk3.mono (fun m hm => List.mem_append.2 (Or.inl hm))).trans (tkr.mono (fun m hm => List.mem_append.2 (Or.inr (List.mem_cons.2 (Or.inr hm))))), fun g hg => ?_, rfl⟩
  rcases List.mem_append.1 hg with h1 | h1
  · rcases hF' g h1 with h2 | h2
    · exact Or.inl (List.mem_append.2 (Or.inl h2))
    · exact Or.inr h2
  · exact Or.inl (List.mem_append.2 (Or.inr h1))
/-- A tick of both. -/
theorem two_ctick (hG : G w0) (hc : carE p what most = 0) (ht : d.k.time < 100000000) (h : TwoC C w0 W p vc vs vw wv what most d cb F a mb tb tc) :
    Calls Tryz.prog 10 #[.pointer (some ⟨cb, 0, none⟩)] W fun e w2 => e = .returned (evA (evC p what most d)) ∧
      Calls Tryz.prog 11 #[.pointer (some ⟨mb, 0, none⟩)] w2 fun e w' => e = .returned (evA (evC p what most d)) ∧ ∃ F' a', WentC C w0 W w' p vc vs vw wv what most (tickC p what most d) cb F F' a a' mb tb tc := by
  refine (C.tick hG h.K hc h.ok ht).mono ?_
  rintro e w2 ⟨rfl, F', hK', tk, hF'⟩
  refine ⟨rfl, ?_⟩
  have hR2 := h.R.frame tk h.apart
  have hB2 : Below w0.heap.size w0 w2 := C.since hK'
  obtain ⟨sa, sc, rfl⟩ := h.pln.spans.form
  refine (rcare_tick p vc vw wv sa sc what most d a mb tb tc w0.heap.size w2 hc h.ok ht hR2 w0 rfl hB2 h.pln h.wht).mono ?_
  rintro e w' ⟨rfl, ⟨us, hR', hus⟩, tkr⟩
  have hmge := hR2.mge
  have hF2 : ∀ g ∈ F', g ∉ mb :: tb :: KF a := fun g hg hm => by
    rcases hF' g hg with h1 | h1
    · exact h.ap g h1 hm
    · have := h.R.flt g hm
      omega
  have hnew := KF.us hus
  have hs := tk.size
  refine ⟨rfl, F', { a with us := us }, ⟨C.frame hK' tkr (fun m hm => ⟨fun hmf => hF2 m hmf ?_, hmge m hm⟩), hR', fun g hg hm => ?_, tickC_ok (carE_zero hc).1 h.ok, h.pln, h.wht⟩, (tk.mono (fun m hm => List.mem_append.2 (Or.inl hm))).trans (tkr.mono (fun m hm => List.mem_append.2 (Or.inr hm))), fun g hg => ?_, rfl⟩
  · rw [List.mem_cons, List.mem_cons]
    rcases List.mem_cons.1 hm with h1 | h1
    · exact Or.inr (Or.inl h1)
    · exact Or.inr (Or.inr (KF.m m h1))
  · rw [List.mem_cons, List.mem_cons] at hm
    have h0 := hF2 g hg
    rw [List.mem_cons, List.mem_cons] at h0
    rcases hm with h1 | h1 | h1
    · exact h0 (Or.inl h1)
    · exact h0 (Or.inr (Or.inl h1))
    · rcases hnew g h1 with h2 | h2
      · exact h0 (Or.inr (Or.inr h2))
      · have := (C.ge hK' g hg).2
        omega
  · rw [List.mem_append, List.mem_cons, List.mem_cons] at hg
    rw [List.mem_append, List.mem_cons, List.mem_cons]
    rcases hg with h1 | h1 | h1 | h1
    · rcases hF' g h1 with h2 | h2
      · exact Or.inl (Or.inl h2)
      · exact Or.inr h2
    · exact Or.inl (Or.inr (Or.inl h1))
    · exact Or.inl (Or.inr (Or.inr (Or.inl h1)))
    · rcases hnew g h1 with h2 | h2
      · exact Or.inl (Or.inr (Or.inr (Or.inr h2)))
      · exact Or.inr (by omega)
end
end Go.Proofs.YtajfgmlockjmhafGreatDoor
namespace Go.Proofs.YtajfgmlockjmhafGreatDoor
open Go.RowKit

theorem pokeK_time' (k : KD) (r c n : Int) : (pokeK k r c n).time = k.time := by unfold pokeK; split <;> rfl
theorem tickC_time (p : PD) (what : List Int) (most : Int) (d : CD) : (tickC p what most d).k.time = d.k.time + 1 := by
  unfold tickC
  rw [tick_time, help_time]
theorem KF_ge {w : World} {base : Nat} {p : PD} {vc vs vw : Value} {k : KD} {a : KW} (hR : RK w base p vc vs vw k a) (hlr : base ≤ a.lr) : ∀ g ∈ KF a, base ≤ g := fun g hm => by
  unfold KF at hm
  simp only [List.mem_cons, List.mem_append, List.mem_filterMap] at hm
  rcases hm with h1 | h1 | h1 | h1 | ⟨u, h1, h2⟩
  · have := hR.ge.1; omega
  · have := hR.ge.2.1; omega
  · omega
  · exact hR.ge.2.2 g h1
  · have := (hR.rows u h1 g h2).1
    have := hR.lt.1
    have := hR.ge.1
    omega
theorem made_ints (n : Nat) (hn : n ≤ 5) (W : World) : (Instr.makeSlice 27 (.int .i64 n) (.int .i64 n)).run Tryz.prog W = .ok (.slice (some ⟨W.heap.size, 0, none⟩) n n) (W.alloc (.cells (madeCells #[.int .i64 0] n) 3)) := by
  obtain ⟨i, hi, hz⟩ : ∃ i, Tryz.prog.info? 3 = some i ∧ (i.zero, i.size, i.bytes) = (some (.int .i64 0), 1, 8) := by
    have : (Tryz.prog.info? 3).map (fun i => (i.zero, i.size, i.bytes)) = some (some (.int .i64 0), 1, 8) := by kernel_rfl
    cases hq : Tryz.prog.info? 3 with
    | none => rw [hq] at this; cases this
    | some i => rw [hq] at this; exact ⟨i, rfl, Option.some.inj this⟩
  simp only [Prod.mk.injEq] at hz
  obtain ⟨hz1, hz2, hz3⟩ := hz
  have := run_make (P := Tryz.prog) W 27 3 i _ (by kernel_rfl) hi hz1 .i64 .i64 n n (by omega) (Int.le_refl _) (by rw [hz3]; omega) (by omega)
  rw [hz2] at this
  simpa [Value.cells] using this
/-- A new one of the document's. -/
theorem rc_new {w W : World} {base : Nat} {p : PD} {vc vs vw wv : Value} {most : Int} {a : KW} {tb : Nat} (hR : RK W base p vc vs vw (newK p) a) (hT : W.heap[tb]? = some (.cells (madeCells #[.int .i64 0] p.code.length) 3 (0, 0))) (htb : base ≤ tb) (hTK : tb ∉ KF a) (hw : w = W.alloc (.cells #[.pointer (some ⟨a.kb, 0, none⟩), wv, .int .i64 most, .slice (some ⟨tb, 0, none⟩) p.code.length p.code.length] 39)) (hb : base ≤ W.heap.size) : RC w base p vc vs vw wv most (newC p) a W.heap.size tb p.code.length := by
  subst hw
  have htl : tb < W.heap.size := (Array.getElem?_eq_some_iff.1 hT).1
  have hB : Below W.heap.size W (W.alloc (.cells #[.pointer (some ⟨a.kb, 0, none⟩), wv, .int .i64 most, .slice (some ⟨tb, 0, none⟩) p.code.length p.code.length] 39)) := (Below.refl _ _).alloc (Nat.le_refl _) _
  have hN := World.alloc_heap_new W (.cells #[.pointer (some ⟨a.kb, 0, none⟩), wv, .int .i64 most, .slice (some ⟨tb, 0, none⟩) p.code.length p.code.length] 39)
  have hT' := (hB.block tb htl).trans hT
  have hln : (newC p).ts.length = p.code.length := by simp [newC]
  obtain ⟨n0, n1, n2, n3, _⟩ := blk4_cs hN
  refine ⟨hR.all hB, n0, n1, n2, by rw [hln]; exact n3, fun i t hi => ?_, fun o => by simp [World.frozen?, hT'], ⟨hb, htb⟩, ⟨by simp, by simp; omega⟩, ⟨fun hm => ?_, hTK, by omega⟩⟩
  · have hil := (List.getElem?_eq_some_iff.1 hi).1
    rw [hln] at hil
    have ht0 : t = 0 := by
      unfold newC at hi
      simp only [List.getElem?_map] at hi
      obtain ⟨_, _, rfl⟩ := Option.map_eq_some_iff.1 hi
      rfl
    subst ht0
    simp [World.cell?, hT', madeCells, hil, Nat.mod_one]
  · have := hR.flt _ hm
    omega
set_option maxRecDepth 1000000 in
set_option maxHeartbeats 8000000 in
theorem cplays_no {G : World → Prop} (C : CarC G) (hE : ∀ (e : Int) (W : World), G W → Calls Tryz.prog 6 #[wErr e, .int .i64 e] W fun r w' => r = .returned (.bool true) ∧ Below W.heap.size W w')
    (hR : ∀ (p : PD) (vc vs vw : Value) (W : World), Pln W vc vs vw p → Calls Tryz.prog 4 #[plV vc p.ticks vs vw] W fun e w' => e = .returned (.int .i64 (plchk p)) ∧ Below W.heap.size W w')
    (p : PD) (vc vs vw wv : Value) (what : List Int) (most n r : Int) (w : World) (hG : G w) (hP : Pln w vc vs vw p) (hW : Stp w wv what) (hc : carE p what most ≠ 0) :
    Calls Tryz.prog 3 #[plV vc p.ticks vs vw, wv, .int .i64 most, .int .i64 n, .int .i64 r] w fun e w' => e = .returned (.bool true) ∧ Below w.heap.size w w' := by
  obtain ⟨ca, cc, rfl⟩ := hP.code.form
  obtain ⟨sa, sc, rfl⟩ := hP.spans.form
  obtain ⟨wa, wc', rfl⟩ := hP.wires.form
  obtain ⟨oa, oc, rfl⟩ := hW.form
  have hx0 := Bx.first w (.slice ca p.code.length cc) p.ticks (.slice sa p.spans.length sc) (.slice wa p.wires.length wc')
  have HP : Hid (Pln w (.slice ca p.code.length cc) (.slice sa p.spans.length sc) (.slice wa p.wires.length wc') p) := hP
  have HG : Hid (∀ W, Below w.heap.size w W → G W) := fun W hb => C.all w W hG hb
  have HE : Hid (∀ (e : Int) (W : World), G W → Calls Tryz.prog 6 #[wErr e, .int .i64 e] W fun r w' => r = .returned (.bool true) ∧ Below W.heap.size W w') := hE
  have q1 := hR p _ _ _ _ (hP.all hx0.below)
  have k0 := hx0.c0
  have k1 := hx0.c1
  have k2 := hx0.c2
  have k3 := hx0.c3
  unfold plV at q1
  unfold plV
  have HN : Hid (∀ W, Below w.heap.size w W → Calls Tryz.prog 5 #[.agg #[.slice ca p.code.length cc, .int .i64 p.ticks, .slice sa p.spans.length sc, .slice wa p.wires.length wc'], .slice oa what.length oc, .int .i64 most] W fun e w' => ∃ x, e = .returned (.tuple #[.pointer x, .iface 70 (.int .i64 (carE p what most))]) ∧ Below W.heap.size W w') := fun W hb => by
    have := C.no p _ _ _ _ what most W (HG.out W hb) (hP.all hb) (hW.every hb) hc
    rw [wErr_not hc] at this
    exact this
  have HE2 : Hid (∀ W, Below w.heap.size w W → Calls Tryz.prog 6 #[.iface 70 (.int .i64 (carE p what most)), .int .i64 (carE p what most)] W fun r w' => r = .returned (.bool true) ∧ Below W.heap.size W w') := fun W hb => by
    have := HE.out (carE p what most) W (HG.out W hb)
    rw [wErr_not hc] at this
    exact this
  have HC : Hid (carE p what most ≠ 0) := hc
  have HW : Hid (Stp w (.slice oa what.length oc) what) := hW
  clear hP hG hE hR hc hW
  by_cases hp : plchk p = 0
  case neg =>
    have hz : carE p what most = plchk p := by
      unfold carE
      rw [if_neg hp]
    rw [hz] at HN HE2
    have hpb : (plchk p == 0) = false := by simpa using hp
    have hpn : (plchk p != 0) = true := by simpa using hp
    generalize plchk p = z at q1 HN HE2 hp hpb hpn
    clear hz HC HW
    cases hwn : what.length with
    | zero =>
      rw [hwn] at HN
      clear hwn
      go_enter Tryz.func3, Tryz.ntmps3
      go_wp2_with (go_at_call 4; refine q1.mono ?_; rintro e w1 ⟨rfl, b1⟩; clear q1 k0 k1 k2 k3; have hx1 := hx0.step b1; have k0 := hx1.c0; have k1 := hx1.c1; have k2 := hx1.c2; have k3 := hx1.c3)
      refine wp_loop_rounds 1 ?_
      rw [rounds_succ]
      have q2 := HN.out w1 hx1.below
      go_wp2_with (first
        | (go_at_call 5; refine q2.mono ?_; rintro e w2 ⟨xp, rfl, b2⟩; clear q2; have hx2 := hx1.step b2; have q3 := HE2.out w2 hx2.below)
        | (go_at_call 6; refine q3.mono ?_; rintro e w3 ⟨rfl, b3⟩; clear q3))
      go_ret
      exact ⟨rfl, hx2.below.trans (b3.mono hx2.below.size)⟩
    | succ m =>
      rw [hwn] at HN
      clear hwn
      have hm0 : (0 : Int) < ((m + 1 : Nat) : Int) := by omega
      go_enter Tryz.func3, Tryz.ntmps3
      go_wp2_with (go_at_call 4; refine q1.mono ?_; rintro e w1 ⟨rfl, b1⟩; clear q1 k0 k1 k2 k3; have hx1 := hx0.step b1; have k0 := hx1.c0; have k1 := hx1.c1; have k2 := hx1.c2; have k3 := hx1.c3)
      refine wp_loop_rounds 1 ?_
      rw [rounds_succ]
      have q2 := HN.out w1 hx1.below
      go_wp2_with (first
        | (go_at_call 5; refine q2.mono ?_; rintro e w2 ⟨xp, rfl, b2⟩; clear q2; have hx2 := hx1.step b2; have q3 := HE2.out w2 hx2.below)
        | (go_at_call 6; refine q3.mono ?_; rintro e w3 ⟨rfl, b3⟩; clear q3))
      go_ret
      exact ⟨rfl, hx2.below.trans (b3.mono hx2.below.size)⟩
  rw [hp] at q1
  by_cases hwl : what.length = p.code.length
  case neg =>
    have hz : carE p what most = 3 := by
      unfold carE
      rw [if_pos hp, if_neg hwl]
    rw [hz] at HN HE2
    have hl1 : ((what.length : Int) != (p.code.length : Int)) = true := by
      simp only [bne_iff_ne, ne_eq]
      omega
    have hl2 : (what.length == p.code.length) = false := by simpa using hwl
    have hl3 : (what.length != p.code.length) = true := by simpa using hwl
    clear hz HC HW hwl hp
    cases hwn : what.length with
    | zero =>
      rw [hwn] at HN hl1 hl2 hl3
      clear hwn
      go_enter Tryz.func3, Tryz.ntmps3
      go_wp2_with (go_at_call 4; refine q1.mono ?_; rintro e w1 ⟨rfl, b1⟩; clear q1 k0 k1 k2 k3; have hx1 := hx0.step b1; have k0 := hx1.c0; have k1 := hx1.c1; have k2 := hx1.c2; have k3 := hx1.c3)
      refine wp_loop_rounds 1 ?_
      rw [rounds_succ]
      have q2 := HN.out w1 hx1.below
      go_wp2_with (first
        | (go_at_call 5; refine q2.mono ?_; rintro e w2 ⟨xp, rfl, b2⟩; clear q2; have hx2 := hx1.step b2; have q3 := HE2.out w2 hx2.below)
        | (go_at_call 6; refine q3.mono ?_; rintro e w3 ⟨rfl, b3⟩; clear q3))
      go_ret
      exact ⟨rfl, hx2.below.trans (b3.mono hx2.below.size)⟩
    | succ m =>
      rw [hwn] at HN hl1 hl2 hl3
      clear hwn
      have hm0 : (0 : Int) < ((m + 1 : Nat) : Int) := by omega
      go_enter Tryz.func3, Tryz.ntmps3
      go_wp2_with (go_at_call 4; refine q1.mono ?_; rintro e w1 ⟨rfl, b1⟩; clear q1 k0 k1 k2 k3; have hx1 := hx0.step b1; have k0 := hx1.c0; have k1 := hx1.c1; have k2 := hx1.c2; have k3 := hx1.c3)
      refine wp_loop_rounds 1 ?_
      rw [rounds_succ]
      have q2 := HN.out w1 hx1.below
      go_wp2_with (first
        | (go_at_call 5; refine q2.mono ?_; rintro e w2 ⟨xp, rfl, b2⟩; clear q2; have hx2 := hx1.step b2; have q3 := HE2.out w2 hx2.below)
        | (go_at_call 6; refine q3.mono ?_; rintro e w3 ⟨rfl, b3⟩; clear q3))
      go_ret
      exact ⟨rfl, hx2.below.trans (b3.mono hx2.below.size)⟩
  have hz : carE p what most = 1 := by
    have := HC.out
    unfold carE at this ⊢
    rw [if_pos hp, if_pos hwl] at this ⊢
    split
    · rfl
    · rename_i h1
      rw [if_neg h1] at this
      split
      · rfl
      · rename_i h2
        rw [if_neg h2] at this
        exact absurd rfl this
  have HZ : Hid (what.any ruleOut = false → most < 0 ∨ 100 < most) := fun ha => by
    have := HC.out
    unfold carE at this
    rw [if_pos hp, if_pos hwl, if_neg (by rw [ha]; decide)] at this
    rcases Classical.em (most < 0 ∨ 100 < most) with h | h
    · exact h
    · rw [if_neg h] at this
      exact absurd rfl this
  rw [hz] at HN HE2
  have hc5 : p.code.length ≤ 5 := (plchk_zero hp).1
  rw [hwl] at HN HW
  have HWL : Hid (what.length = p.code.length) := hwl
  rw [hwl]
  clear hz HC hwl hp
  go_enter Tryz.func3, Tryz.ntmps3
  go_wp2_with (go_at_call 4; refine q1.mono ?_; rintro e w1 ⟨rfl, b1⟩; clear q1 k0 k1 k2 k3; have hx1 := hx0.step b1; have k0 := hx1.c0; have k1 := hx1.c1; have k2 := hx1.c2; have k3 := hx1.c3)
  go_loopw [11, 12] (fun s11 s12 wr => ∃ (k : Nat) (z : Int), k ≤ p.code.length ∧ s12 = .int .i64 k ∧ s11 = .int .i64 z ∧ ((z = 0 ∧ ∀ (j : Nat) y, j < k → what[j]? = some y → ruleOut y = false) ∨ (z = 1 ∧ what.any ruleOut = true)) ∧ wr = w1) (fun _ s12 _ => p.code.length - (intOf s12).toNat)
  case atStart => exact ⟨0, 0, Nat.zero_le _, rfl, rfl, Or.inl ⟨rfl, fun j y hj => by omega⟩, rfl⟩
  case round =>
  obtain ⟨k, z, hk, rfl, rfl, hzz, hwr⟩ := hrel
  rw [hwr]
  clear hwr wr
  have q2 := HN.out w1 hx1.below
  rcases hzz with ⟨rfl, hall⟩ | ⟨rfl, hany⟩
  · have HA : Hid (∀ (j : Nat) y, j < k → what[j]? = some y → ruleOut y = false) := hall
    clear hall
    by_cases hkl : k < p.code.length
    · have hki : (k : Int) < (p.code.length : Int) := by omega
      obtain ⟨b, off, x, rfl, hcx, hx⟩ : ∃ b off x, oa = some ⟨b, off, none⟩ ∧ w1.cell? ⟨b, off + k, none⟩ = some (.int .i64 x) ∧ what[k]? = some x := by
        have h := HW.out
        rw [← HWL.out] at h
        exact h.at hx1.below (by rw [HWL.out]; exact hkl)
      have HX : Hid (what[k]? = some x) := hx
      clear hx
      by_cases h1 : x < 0
      · have h1' : decide (x < 0) = true := decide_eq_true h1
        have HY : Hid (what.any ruleOut = true) := any_hit HX.out (by simp [ruleOut, h1])
        clear h1
        go_wp2
        go_roundw
        case rel => exact ⟨k + 1, 1, by omega, by go_num, rfl, Or.inr ⟨rfl, HY.out⟩, by trivial⟩
        case measure => simp [intOf]; omega
      · have h1' : decide (x < 0) = false := decide_eq_false h1
        by_cases h2 : 2 < x
        · have h2' : decide (2 < x) = true := decide_eq_true h2
          have HY : Hid (what.any ruleOut = true) := any_hit HX.out (by simp [ruleOut, h2])
          clear h1 h2
          go_wp2
          go_roundw
          case rel => exact ⟨k + 1, 1, by omega, by go_num, rfl, Or.inr ⟨rfl, HY.out⟩, by trivial⟩
          case measure => simp [intOf]; omega
        · have h2' : decide (2 < x) = false := decide_eq_false h2
          have HY : Hid (ruleOut x = false) := by
            show _ = _
            unfold ruleOut
            rw [h1', h2']
            rfl
          clear h1 h2
          go_wp2
          go_roundw
          case rel => exact ⟨k + 1, 0, by omega, by go_num, rfl, Or.inl ⟨rfl, upto_next HA.out HX.out HY.out⟩, by trivial⟩
          case measure => simp [intOf]; omega
    · obtain rfl : k = p.code.length := by omega
      have hki : decide ((p.code.length : Int) < (p.code.length : Int)) = false := decide_eq_false (by omega)
      have ha : what.any ruleOut = false := any_false (fun j y hj hy => HA.out j y (by rw [← HWL.out]; exact hj) hy)
      rcases HZ.out ha with h1 | h1
      · have h1' : decide (most < 0) = true := decide_eq_true h1
        clear h1 ha HZ
        go_wp2_with (first
          | (go_at_call 5; refine q2.mono ?_; rintro e w2 ⟨xp, rfl, b2⟩; clear q2; have hx2 := hx1.step b2; have q3 := HE2.out w2 hx2.below)
          | (go_at_call 6; refine q3.mono ?_; rintro e w3 ⟨rfl, b3⟩; clear q3))
        go_ret
        exact ⟨rfl, hx2.below.trans (b3.mono hx2.below.size)⟩
      · have h1' : decide (100 < most) = true := decide_eq_true h1
        have h2' : decide (most < 0) = false := decide_eq_false (by omega)
        clear h1 ha HZ
        go_wp2_with (first
          | (go_at_call 5; refine q2.mono ?_; rintro e w2 ⟨xp, rfl, b2⟩; clear q2; have hx2 := hx1.step b2; have q3 := HE2.out w2 hx2.below)
          | (go_at_call 6; refine q3.mono ?_; rintro e w3 ⟨rfl, b3⟩; clear q3))
        go_ret
        exact ⟨rfl, hx2.below.trans (b3.mono hx2.below.size)⟩
  · clear hany
    by_cases hkl : k < p.code.length
    · have hki : (k : Int) < (p.code.length : Int) := by omega
      go_wp2_with (first
        | (go_at_call 5; refine q2.mono ?_; rintro e w2 ⟨xp, rfl, b2⟩; clear q2; have hx2 := hx1.step b2; have q3 := HE2.out w2 hx2.below)
        | (go_at_call 6; refine q3.mono ?_; rintro e w3 ⟨rfl, b3⟩; clear q3))
      go_ret
      exact ⟨rfl, hx2.below.trans (b3.mono hx2.below.size)⟩
    · obtain rfl : k = p.code.length := by omega
      have hki : decide ((p.code.length : Int) < (p.code.length : Int)) = false := decide_eq_false (by omega)
      go_wp2_with (first
        | (go_at_call 5; refine q2.mono ?_; rintro e w2 ⟨xp, rfl, b2⟩; clear q2; have hx2 := hx1.step b2; have q3 := HE2.out w2 hx2.below)
        | (go_at_call 6; refine q3.mono ?_; rintro e w3 ⟨rfl, b3⟩; clear q3))
      go_ret
      exact ⟨rfl, hx2.below.trans (b3.mono hx2.below.size)⟩
set_option maxRecDepth 1000000 in
set_option maxHeartbeats 16000000 in
theorem cplays_ok {G : World → Prop} (C : CarC G) (CP : CarPoke C) (hE : ∀ (e : Int) (W : World), G W → Calls Tryz.prog 6 #[wErr e, .int .i64 e] W fun r w' => r = .returned (.bool true) ∧ Below W.heap.size W w')
    (hR : ∀ (p : PD) (vc vs vw : Value) (W : World), Pln W vc vs vw p → Calls Tryz.prog 4 #[plV vc p.ticks vs vw] W fun e w' => e = .returned (.int .i64 (plchk p)) ∧ Below W.heap.size W w')
    (p : PD) (vc vs vw wv : Value) (what : List Int) (most n r : Int) (w : World) (hG : G w) (hP : Pln w vc vs vw p) (hW : Stp w wv what) (hc : carE p what most = 0) :
    Calls Tryz.prog 3 #[plV vc p.ticks vs vw, wv, .int .i64 most, .int .i64 n, .int .i64 r] w fun e w' => e = .returned (.bool true) ∧ Below w.heap.size w w' := by
  obtain ⟨ca, cc, rfl⟩ := hP.code.form
  obtain ⟨sa, sc, rfl⟩ := hP.spans.form
  obtain ⟨wa, wc', rfl⟩ := hP.wires.form
  obtain ⟨oa, oc, rfl⟩ := hW.form
  have hx0 := Bx.first w (.slice ca p.code.length cc) p.ticks (.slice sa p.spans.length sc) (.slice wa p.wires.length wc')
  have HP : Hid (Pln w (.slice ca p.code.length cc) (.slice sa p.spans.length sc) (.slice wa p.wires.length wc') p) := hP
  have HG : Hid (∀ W, Below w.heap.size w W → G W) := fun W hb => C.all w W hG hb
  have HE : Hid (∀ (e : Int) (W : World), G W → Calls Tryz.prog 6 #[wErr e, .int .i64 e] W fun r w' => r = .returned (.bool true) ∧ Below W.heap.size W w') := hE
  have q1 := hR p _ _ _ _ (hP.all hx0.below)
  have k0 := hx0.c0
  have k1 := hx0.c1
  have k2 := hx0.c2
  have k3 := hx0.c3
  unfold plV at q1
  unfold plV
  obtain ⟨hp, hwl, hwr, hm0, hm1⟩ := carE_zero hc
  have hc5 : p.code.length ≤ 5 := (plchk_zero hp).1
  rw [hwl] at hW
  rw [hp] at q1
  rw [hwl]
  have HN : Hid (∀ W, Below w.heap.size w W → Calls Tryz.prog 5 #[.agg #[.slice ca p.code.length cc, .int .i64 p.ticks, .slice sa p.spans.length sc, .slice wa p.wires.length wc'], .slice oa p.code.length oc, .int .i64 most] W fun e w' => ∃ cb F, e = .returned (.tuple #[.pointer (some ⟨cb, 0, none⟩), .nilIface]) ∧ C.K W w' p what most (newC p) cb F) := fun W hb => C.new p _ _ _ _ what most W (HG.out W hb) (hP.all hb) (hW.every hb) hc
  have HE2 : Hid (∀ W, Below w.heap.size w W → Calls Tryz.prog 6 #[.nilIface, .int .i64 0] W fun r w' => r = .returned (.bool true) ∧ Below W.heap.size W w') := fun W hb => HE.out 0 W (HG.out W hb)
  have HR : Hid (∀ W, Below w.heap.size w W → Calls Tryz.prog 7 #[.agg #[.slice ca p.code.length cc, .int .i64 p.ticks, .slice sa p.spans.length sc, .slice wa p.wires.length wc']] W fun e w' => ∃ a : KW, e = .returned (.pointer (some ⟨a.kb, 0, none⟩)) ∧ W.heap.size ≤ a.lr ∧ RK w' W.heap.size p (.slice ca p.code.length cc) (.slice sa p.spans.length sc) (.slice wa p.wires.length wc') (newK p) a ∧ Below W.heap.size W w') := fun W hb => newkernel_any p _ _ _ W hp (HP.out.all hb)
  have HW : Hid (Stp w (.slice oa p.code.length oc) what) := hW
  have HWL : Hid (what.length = p.code.length) := hwl
  have HWR : Hid (∀ n ∈ what, 0 ≤ n ∧ n ≤ 2) := hwr
  have hm0' : decide (most < 0) = false := decide_eq_false (by omega)
  have hm1' : decide (100 < most) = false := decide_eq_false (by omega)
  clear hP hG hE hR hW hwl hwr hm0 hm1
  go_enter Tryz.func3, Tryz.ntmps3
  go_wp2_with (go_at_call 4; refine q1.mono ?_; rintro e w1 ⟨rfl, b1⟩; clear q1 k0 k1 k2 k3; have hx1 := hx0.step b1; have k0 := hx1.c0; have k1 := hx1.c1; have k2 := hx1.c2; have k3 := hx1.c3)
  go_loopw [11, 12] (fun s11 s12 wr => ∃ k : Nat, k ≤ p.code.length ∧ s12 = .int .i64 k ∧ s11 = .int .i64 0 ∧ wr = w1) (fun _ s12 _ => p.code.length - (intOf s12).toNat)
  case atStart => exact ⟨0, Nat.zero_le _, rfl, rfl, rfl⟩
  case round =>
  obtain ⟨k, hk, rfl, rfl, hwr⟩ := hrel
  rw [hwr]
  clear hwr wr
  by_cases hkl : k < p.code.length
  case pos =>
    have hki : (k : Int) < (p.code.length : Int) := by omega
    obtain ⟨b, off, x, rfl, hcx, hx⟩ : ∃ b off x, oa = some ⟨b, off, none⟩ ∧ w1.cell? ⟨b, off + k, none⟩ = some (.int .i64 x) ∧ what[k]? = some x := by
      have h := HW.out
      rw [← HWL.out] at h
      exact h.at hx1.below (by rw [HWL.out]; exact hkl)
    obtain ⟨hx0', hx2'⟩ := HWR.out x (List.mem_of_getElem? hx)
    have h1' : decide (x < 0) = false := decide_eq_false (by omega)
    have h2' : decide (2 < x) = false := decide_eq_false (by omega)
    clear hx hx0' hx2'
    go_wp2
    go_roundw
    case rel => exact ⟨k + 1, by omega, by go_num, rfl, by trivial⟩
    case measure => simp [intOf]; omega
  obtain rfl : k = p.code.length := by omega
  have hki : decide ((p.code.length : Int) < (p.code.length : Int)) = false := decide_eq_false (by omega)
  have q2 := HN.out w1 hx1.below
  go_upto_region 15 with (first
    | (go_at_call 5; refine q2.mono ?_; rintro e w2 ⟨cb, F, rfl, hK⟩; clear q2 k0 k1 k2 k3; have hx2 := hx1.step (C.since hK); have q3 := HE2.out w2 hx2.below)
    | (go_at_call 6; refine q3.mono ?_; rintro e w3 ⟨rfl, b3⟩; clear q3; have hx3 := hx2.step b3))
  have HK : Hid (C.K w1 w2 p what most (newC p) cb F) := hK
  have hs1 := hx1.size
  have hs12 : w1.heap.size ≤ w2.heap.size := (C.since hK).size
  have hs23 := b3.size
  have HB3 : Hid (Below w2.heap.size w2 w3) := b3
  have HX1 : Hid (Bx w w1 (.slice ca p.code.length cc) p.ticks (.slice sa p.spans.length sc) (.slice wa p.wires.length wc')) := hx1
  have HG1 : Hid (G w1) := HG.out w1 hx1.below
  clear hK hx0 hx1 hx2 b3 hki hkl hk hm0' hm1' HN HE2
  go_cut [16] from 87 to 95 (fun s16 wx => ∃ (a : KW) (mb tb : Nat), s16 = .pointer (some ⟨mb, 0, none⟩) ∧ RC wx w3.heap.size p (.slice ca p.code.length cc) (.slice sa p.spans.length sc) (.slice wa p.wires.length wc') (.slice oa p.code.length oc) most (newC p) a mb tb p.code.length ∧ Below w3.heap.size w3 wx ∧ ∀ g ∈ KF a, w3.heap.size ≤ g)
  case first =>
    have hmk := made_ints p.code.length hc5
    have HQ : Hid (∀ W, Below w3.heap.size w3 W → W.cell? ⟨w.heap.size, 0, none⟩ = some (.slice ca p.code.length cc) ∧ W.cell? ⟨w.heap.size, 1, none⟩ = some (.int .i64 p.ticks) ∧ W.cell? ⟨w.heap.size, 2, none⟩ = some (.slice sa p.spans.length sc) ∧ W.cell? ⟨w.heap.size, 3, none⟩ = some (.slice wa p.wires.length wc')) := fun W hb => ⟨(hx3.step hb).c0, (hx3.step hb).c1, (hx3.step hb).c2, (hx3.step hb).c3⟩
    have HR3 : Hid (∀ W, Below w3.heap.size w3 W → Calls Tryz.prog 7 #[.agg #[.slice ca p.code.length cc, .int .i64 p.ticks, .slice sa p.spans.length sc, .slice wa p.wires.length wc']] W fun e w' => ∃ a : KW, e = .returned (.pointer (some ⟨a.kb, 0, none⟩)) ∧ W.heap.size ≤ a.lr ∧ RK w' W.heap.size p (.slice ca p.code.length cc) (.slice sa p.spans.length sc) (.slice wa p.wires.length wc') (newK p) a ∧ Below W.heap.size W w') := fun W hb => HR.out W (hx3.step hb).below
    have bcur : Below w3.heap.size w3 w3.drew := (Below.refl _ _).drew
    refine wp_region_popped (fun W => W.cell? ⟨w.heap.size, 0, none⟩ = some (.slice ca p.code.length cc) ∧ W.cell? ⟨w.heap.size, 1, none⟩ = some (.int .i64 p.ticks) ∧ W.cell? ⟨w.heap.size, 2, none⟩ = some (.slice sa p.spans.length sc) ∧ W.cell? ⟨w.heap.size, 3, none⟩ = some (.slice wa p.wires.length wc')) (by kernel_rfl) rfl (by decide +kernel) (HQ.out _ bcur) (fun hHeld => ?_)
    simp only [List.pop_toArray, List.dropLast_cons_cons, List.dropLast_singleton, List.size_toArray, List.length_cons, List.length_nil, Nat.reduceAdd, Array.replicate_succ, Array.replicate_zero, List.push_toArray, List.nil_append, List.cons_append]
    refine wpAnyH_take (i := 0) (v := ?_) rfl (by decide +kernel) (by decide +kernel) (by decide +kernel) (fun _ _ _ h => h) (Or.inl ⟨by rfl, ?_⟩) (by assumption) ?_
    rotate_left
    · intro W hSw
      try dsimp only at hSw
      obtain ⟨hS0, hS1, hS2, hS3⟩ := hSw
      go_simp
      try with_reducible rfl
    simp only [Act.put, List.setIfInBounds_toArray, List.set_cons_zero]
    refine wpAnyH_take (i := 2) (v := ?_) rfl (by decide +kernel) (by decide +kernel) (by decide +kernel) (fun _ _ _ h => h) (Or.inl ⟨by rfl, ?_⟩) (by assumption) ?_
    rotate_left
    · intro W hSw
      try dsimp only at hSw
      obtain ⟨hS0, hS1, hS2, hS3⟩ := hSw
      go_simp
      try with_reducible rfl
    simp only [Act.put, List.setIfInBounds_toArray, List.set_cons_zero, List.set_cons_succ]
    refine wpAnyH_take (i := 3) (v := ?_) rfl (by decide +kernel) (by decide +kernel) (by decide +kernel) (fun _ _ _ h => h) (Or.inl ⟨by rfl, ?_⟩) (by assumption) ?_
    rotate_left
    · intro W hSw
      try dsimp only at hSw
      obtain ⟨hS0, hS1, hS2, hS3⟩ := hSw
      go_simp
      try with_reducible rfl
    simp only [Act.put, List.setIfInBounds_toArray, List.set_cons_zero, List.set_cons_succ]
    refine wpAnyH_take (i := 4) (v := ?_) rfl (by decide +kernel) (by decide +kernel) (by decide +kernel) (fun _ _ _ h => h) (Or.inl ⟨by rfl, ?_⟩) (by assumption) ?_
    rotate_left
    · intro W hSw
      try dsimp only at hSw
      obtain ⟨hS0, hS1, hS2, hS3⟩ := hSw
      go_simp
      try with_reducible rfl
    simp only [Act.put, List.setIfInBounds_toArray, List.set_cons_zero, List.set_cons_succ]
    refine wpAnyH_take (i := 5) (v := ?_) rfl (by decide +kernel) (by decide +kernel) (by decide +kernel) (fun _ _ _ h => h) (Or.inl ⟨by rfl, ?_⟩) (by assumption) ?_
    rotate_left
    · intro W hSw
      try dsimp only at hSw
      obtain ⟨hS0, hS1, hS2, hS3⟩ := hSw
      go_simp
      try with_reducible rfl
    simp only [Act.put, List.setIfInBounds_toArray, List.set_cons_zero, List.set_cons_succ]
    generalize w3.drew = wD at bcur hHeld ⊢
    refine wpAnyH_ready (rs := [1, 6]) (by decide +kernel) (by simp) ?_
    refine AllReadyH.cons (o := _) rfl (fun K hK => ?_) (AllReadyH.cons (o := _) rfl (fun K hK => ?_) AllReadyH.nil)
    · go_simp
      go_at_call 7
      refine (HR3.out _ bcur).mono ?_
      rintro e wN ⟨a, rfl, hlr, hRk, bN⟩
      have hKg := KF_ge hRk hlr
      have hsb := bcur.size
      replace hKg : ∀ g ∈ KF a, w3.heap.size ≤ g := fun g hg => Nat.le_trans hsb (hKg g hg)
      replace hRk := hRk.lower hsb
      clear hsb hlr
      replace bcur := bcur.trans (bN.mono bcur.size)
      clear bN
      go_wp2_with fail
      refine hK.out _ _ (HQ.out _ bcur) (fun hHeld => ?_)
      clear hK K
      simp only [List.setIfInBounds_toArray, List.set_cons_zero, List.set_cons_succ]
      refine wpAnyH_ready (rs := [6]) (by decide +kernel) (by simp) ?_
      refine AllReadyH.cons (o := _) rfl (fun K hK => ?_) AllReadyH.nil
      go_simp
      have bN : Below (wN).heap.size (wN) ((wN).alloc (.cells (madeCells #[.int .i64 0] p.code.length) 3)) := (Below.refl _ _).alloc (Nat.le_refl _) _
      have hT : ((wN).alloc (.cells (madeCells #[.int .i64 0] p.code.length) 3)).heap[(wN).heap.size]? = some (.cells (madeCells #[.int .i64 0] p.code.length) 3 (0, 0)) := World.alloc_heap_new _ _
      have htb : (wN).heap.size < ((wN).alloc (.cells (madeCells #[.int .i64 0] p.code.length) 3)).heap.size := by simp
      have htg : w3.heap.size ≤ (wN).heap.size := bcur.size
      have hTK : (wN).heap.size ∉ KF a := fun hm => by have := hRk.flt _ hm; omega
      replace hRk := hRk.all bN
      replace bcur := bcur.trans (bN.mono bcur.size)
      clear bN
      refine hK.out _ _ (HQ.out _ bcur) (fun hHeld => ?_)
      clear hK K
      simp only [List.setIfInBounds_toArray, List.set_cons_zero, List.set_cons_succ]
      generalize (wN).alloc (.cells (madeCells #[.int .i64 0] p.code.length) 3) = wMN at hT htb bcur hHeld hRk ⊢
      generalize (wN).heap.size = tb at hT htb htg hTK ⊢
      refine wpAnyH_take (i := 7) (v := ?_) rfl (by decide +kernel) (by decide +kernel) (by decide +kernel) (fun _ _ _ h => h) (Or.inl ⟨by rfl, ?_⟩) (by assumption) ?_
      rotate_left
      · intro W hSw
        try dsimp only at hSw
        obtain ⟨hS0, hS1, hS2, hS3⟩ := hSw
        go_simp
        try with_reducible rfl
      simp only [Act.put, List.setIfInBounds_toArray, List.set_cons_zero, List.set_cons_succ]
      refine wpAnyH_ready (rs := [8]) (by decide +kernel) (by simp) ?_
      refine AllReadyH.cons (o := _) rfl (fun K hK => ?_) AllReadyH.nil
      go_simp
      have hRC := rc_new (w := (wMN).alloc (.cells #[.pointer (some ⟨a.kb, 0, none⟩), .slice oa p.code.length oc, .int .i64 most, .slice (some ⟨tb, 0, none⟩) p.code.length p.code.length] 39)) (wv := .slice oa p.code.length oc) (most := most) hRk hT htg hTK rfl bcur.size
      have bB : Below w3.heap.size w3 ((wMN).alloc (.cells #[.pointer (some ⟨a.kb, 0, none⟩), .slice oa p.code.length oc, .int .i64 most, .slice (some ⟨tb, 0, none⟩) p.code.length p.code.length] 39)) := bcur.alloc bcur.size _
      refine hK.out _ _ (HQ.out _ bB) (fun hHeld => ?_)
      clear hK K
      simp only [List.setIfInBounds_toArray, List.set_cons_zero, List.set_cons_succ]
      refine wpAnyH_done (by decide +kernel) ?_ _
      show Oper.wp _ _ _ _ _ _
      go_simp
      go_wp2_with fail
      go_meet
      case rel => exact ⟨a, _, tb, rfl, hRC, bB, hKg⟩
    · go_simp
      have bN : Below (wD).heap.size (wD) ((wD).alloc (.cells (madeCells #[.int .i64 0] p.code.length) 3)) := (Below.refl _ _).alloc (Nat.le_refl _) _
      have hT : ((wD).alloc (.cells (madeCells #[.int .i64 0] p.code.length) 3)).heap[(wD).heap.size]? = some (.cells (madeCells #[.int .i64 0] p.code.length) 3 (0, 0)) := World.alloc_heap_new _ _
      have htb : (wD).heap.size < ((wD).alloc (.cells (madeCells #[.int .i64 0] p.code.length) 3)).heap.size := by simp
      have htg : w3.heap.size ≤ (wD).heap.size := bcur.size
      replace bcur := bcur.trans (bN.mono bcur.size)
      clear bN
      refine hK.out _ _ (HQ.out _ bcur) (fun hHeld => ?_)
      clear hK K
      simp only [List.setIfInBounds_toArray, List.set_cons_zero, List.set_cons_succ]
      generalize (wD).alloc (.cells (madeCells #[.int .i64 0] p.code.length) 3) = wM at hT htb bcur hHeld ⊢
      generalize (wD).heap.size = tb at hT htb htg ⊢
      refine wpAnyH_ready (rs := [1]) (by decide +kernel) (by simp) ?_
      refine AllReadyH.cons (o := _) rfl (fun K hK => ?_) AllReadyH.nil
      go_simp
      go_at_call 7
      refine (HR3.out _ bcur).mono ?_
      rintro e wNM ⟨a, rfl, hlr, hRk, bN⟩
      have hKg := KF_ge hRk hlr
      have hTK : tb ∉ KF a := fun hm => by have := hKg tb hm; omega
      replace hT := (bN.block tb htb).trans hT
      replace htb := Nat.lt_of_lt_of_le htb bN.size
      have hsb := bcur.size
      replace hKg : ∀ g ∈ KF a, w3.heap.size ≤ g := fun g hg => Nat.le_trans hsb (hKg g hg)
      replace hRk := hRk.lower hsb
      clear hsb hlr
      replace bcur := bcur.trans (bN.mono bcur.size)
      clear bN
      go_wp2_with fail
      refine hK.out _ _ (HQ.out _ bcur) (fun hHeld => ?_)
      clear hK K
      simp only [List.setIfInBounds_toArray, List.set_cons_zero, List.set_cons_succ]
      refine wpAnyH_take (i := 7) (v := ?_) rfl (by decide +kernel) (by decide +kernel) (by decide +kernel) (fun _ _ _ h => h) (Or.inl ⟨by rfl, ?_⟩) (by assumption) ?_
      rotate_left
      · intro W hSw
        try dsimp only at hSw
        obtain ⟨hS0, hS1, hS2, hS3⟩ := hSw
        go_simp
        try with_reducible rfl
      simp only [Act.put, List.setIfInBounds_toArray, List.set_cons_zero, List.set_cons_succ]
      refine wpAnyH_ready (rs := [8]) (by decide +kernel) (by simp) ?_
      refine AllReadyH.cons (o := _) rfl (fun K hK => ?_) AllReadyH.nil
      go_simp
      have hRC := rc_new (w := (wNM).alloc (.cells #[.pointer (some ⟨a.kb, 0, none⟩), .slice oa p.code.length oc, .int .i64 most, .slice (some ⟨tb, 0, none⟩) p.code.length p.code.length] 39)) (wv := .slice oa p.code.length oc) (most := most) hRk hT htg hTK rfl bcur.size
      have bB : Below w3.heap.size w3 ((wNM).alloc (.cells #[.pointer (some ⟨a.kb, 0, none⟩), .slice oa p.code.length oc, .int .i64 most, .slice (some ⟨tb, 0, none⟩) p.code.length p.code.length] 39)) := bcur.alloc bcur.size _
      refine hK.out _ _ (HQ.out _ bB) (fun hHeld => ?_)
      clear hK K
      simp only [List.setIfInBounds_toArray, List.set_cons_zero, List.set_cons_succ]
      refine wpAnyH_done (by decide +kernel) ?_ _
      show Oper.wp _ _ _ _ _ _
      go_simp
      go_wp2_with fail
      go_meet
      case rel => exact ⟨a, _, tb, rfl, hRC, bB, hKg⟩
  case rest =>
  obtain ⟨a, mb, tb, rfl, hRC, hbx, hKg⟩ := hcut
  generalize wc = w4 at *
  have hTw : TwoC C w1 w4 p (.slice ca p.code.length cc) (.slice sa p.spans.length sc) (.slice wa p.wires.length wc') (.slice oa p.code.length oc) what most (newC p) cb F a mb tb p.code.length := by
    have hb24 : Below w2.heap.size w2 w4 := HB3.out.trans (hbx.mono hs23)
    refine ⟨C.frame HK.out (KTouch.of (M := []) hb24) (by simp), ?_, fun g hg hm => ?_, newC_ok hc, HP.out.all HX1.out.below, HW.out.every HX1.out.below⟩
    · exact ⟨hRC.k.lower (by omega), hRC.c0, hRC.c1, hRC.c2, hRC.c3, hRC.ts, hRC.tf, ⟨by have := hRC.ge.1; omega, by have := hRC.ge.2; omega⟩, hRC.lt, hRC.ap⟩
    · have h1 := (C.ge HK.out g hg).2
      rcases List.mem_cons.1 hm with h2 | hm
      · have := hRC.ge.1
        omega
      · rcases List.mem_cons.1 hm with h2 | hm
        · have := hRC.ge.2
          omega
        · have := hKg g hm
          omega
  have hx4 := hx3.step hbx
  clear hRC hKg hbx hx3 HR HK HB3 HX1 hs12 hs23 HW HWL HWR
  go_wp2
  go_loopw [15, 17] (fun s15 s17 wr => ∃ (i : Nat) (d : CD) (F : List Nat) (a' : KW), i ≤ 120 ∧ s15 = .bool true ∧ s17 = .int .i64 i ∧ d.k.time ≤ i ∧ TwoC C w1 wr p (.slice ca p.code.length cc) (.slice sa p.spans.length sc) (.slice wa p.wires.length wc') (.slice oa p.code.length oc) what most d cb F a' mb tb p.code.length ∧ Bx w wr (.slice ca p.code.length cc) p.ticks (.slice sa p.spans.length sc) (.slice wa p.wires.length wc')) (fun _ s _ => 120 - (intOf s).toNat)
  case atStart => exact ⟨0, _, F, a, Nat.zero_le _, rfl, rfl, (by show (0 : Int) ≤ ((0 : Nat) : Int); omega), hTw, hx4⟩
  case round =>
  clear hTw hx4
  obtain ⟨i, d, F1, a1, hi, rfl, rfl, htm, hTw, hx⟩ := hrel
  by_cases hin : (i : Int) < n
  case neg =>
    have hin' : decide ((i : Int) < n) = false := decide_eq_false hin
    clear hTw
    go_wp2
    go_ret
    exact ⟨rfl, hx.below⟩
  have hin' : decide ((i : Int) < n) = true := decide_eq_true hin
  by_cases hi2 : i < 120
  case neg =>
    obtain rfl : i = 120 := by omega
    rw [show ((120 : Nat) : Int) = 120 from rfl] at hin hin' ⊢
    clear hTw
    go_wp2
    go_ret
    exact ⟨rfl, hx.below⟩
  have hi6 : (i : Int) < 120 := by omega
  rename World => wA
  go_upto_region 19 with fail
  go_cut [107] from 105 to 106 (fun s wx => s = .bool (decide ((i : Int) % 17 = 5)) ∧ wx = wA)
  case first =>
    by_cases h5 : (i : Int) % 17 = 5
    · have HX : Hid (decide ((i : Int) % 17 = 5) = true) := decide_eq_true h5
      have h5' : ((i : Int) % 17 == 5) = true := by simpa using h5
      clear h5
      go_wp2_with fail
      go_meet
      case rel => exact ⟨by rw [HX.out], rfl⟩
    · have HX : Hid (decide ((i : Int) % 17 = 5) = false) := decide_eq_false h5
      have h5' : ((i : Int) % 17 == 5) = false := by simpa using h5
      clear h5
      go_wp2_with fail
      go_meet
      case rel => exact ⟨by rw [HX.out], rfl⟩
  case rest =>
  obtain ⟨rfl, hwc⟩ := hcut
  rw [hwc]
  clear hwc wc
  go_step
  go_cut [15] from 107 to 123 (fun s15 wx => s15 = .bool true ∧ ∃ (d' : CD) (F' : List Nat), d'.k.time ≤ i ∧ TwoC C w1 wx p (.slice ca p.code.length cc) (.slice sa p.spans.length sc) (.slice wa p.wires.length wc') (.slice oa p.code.length oc) what most d' cb F' a1 mb tb p.code.length ∧ Bx w wx (.slice ca p.code.length cc) p.ticks (.slice sa p.spans.length sc) (.slice wa p.wires.length wc'))
  case first =>
    by_cases h5 : (i : Int) % 17 = 5
    · rw [show decide ((i : Int) % 17 = 5) = true from decide_eq_true h5]
      clear h5
      have hTd := hTw.all (Below.refl _ wA).drew
      have q1 := two_cpoke CP hc r ((i : Int) % 7) (i : Int) hTd
      have hS := hTd.R.c0
      have hmbF : mb ∉ F1 := fun hm => (hTw.apart mb hm).1 rfl
      have hmbl : mb < wA.drew.heap.size := hTd.R.lt.1
      have HBw : Hid (∀ w' F2, WentC C w1 wA.drew w' p (.slice ca p.code.length cc) (.slice sa p.spans.length sc) (.slice wa p.wires.length wc') (.slice oa p.code.length oc) what most ⟨pokeK d.k r ((i : Int) % 7) (i : Int), d.ts⟩ cb F1 F2 a1 a1 mb tb p.code.length → Bx w w' (.slice ca p.code.length cc) p.ticks (.slice sa p.spans.length sc) (.slice wa p.wires.length wc')) := fun w' F2 hw => Below.trans (hx.step (Below.refl _ wA).drew) ((hw.touch.below hTd.mge (C.since hTd.K).size).mono hs1)
      have HTm : Hid ((pokeK d.k r ((i : Int) % 7) (i : Int)).time ≤ (i : Int)) := by
        show _ ≤ _
        rw [pokeK_time']
        exact htm
      obtain ⟨z, hzz⟩ : ∃ z, z = pokeN d.k r ((i : Int) % 7) (i : Int) := ⟨_, rfl⟩
      rw [← hzz] at q1
      generalize pokeK d.k r ((i : Int) % 7) (i : Int) = k2 at q1 HBw HTm
      obtain ⟨ve, hve⟩ : ∃ ve, ve = wErr z := ⟨_, rfl⟩
      have HE3 : Hid (∀ W, G W → Calls Tryz.prog 6 #[ve, .int .i64 z] W fun r w' => r = .returned (.bool true) ∧ Below W.heap.size W w') := fun W hg => by rw [hve]; exact HE.out z W hg
      rw [← hve] at q1
      clear hve hzz hTw hTd hx
      go_upto_region 20 with fail
      go_region_held3 (fun W => W.cell? ⟨mb, 0, none⟩ = some (.pointer (some ⟨a1.kb, 0, none⟩)))
        (first | with_reducible exact hS | go_keep)
        (first
          | (go_at_call 8; refine q1.mono ?_; rintro e w5 ⟨rfl, tk5, q2⟩; clear q1; replace hS := (World.cell?_of_block (w := wA.drew) (a := ⟨mb, 0, none⟩) (tk5.block mb hmbl hmbF)).trans hS)
          | (go_at_call 9; refine (q2 _ (Below.refl _ _)).mono ?_; rintro e w6 ⟨rfl, F2, hWt⟩; clear q2; replace hS := hWt.two.R.c0; have hx6 := HBw.out w6 F2 hWt; have q3 := HE3.out w6 (HG.out w6 hx6.below))
          | (go_at_call 6; refine q3.mono ?_; rintro e w7 ⟨rfl, b7⟩; clear q3; replace hS := (hWt.two.all b7).R.c0))
      all_goals (go_wp2_with fail; go_meet; exact ⟨rfl, ⟨k2, d.ts⟩, F2, HTm.out, hWt.two.all b7, hx6.step b7⟩)
    · rw [show decide ((i : Int) % 17 = 5) = false from decide_eq_false h5]
      clear h5
      have HT : Hid (TwoC C w1 wA p (.slice ca p.code.length cc) (.slice sa p.spans.length sc) (.slice wa p.wires.length wc') (.slice oa p.code.length oc) what most d cb F1 a1 mb tb p.code.length ∧ Bx w wA (.slice ca p.code.length cc) p.ticks (.slice sa p.spans.length sc) (.slice wa p.wires.length wc')) := ⟨hTw, hx⟩
      clear hTw hx
      go_wp2_with fail
      go_meet
      case rel => exact ⟨rfl, d, F1, htm, HT.out.1, HT.out.2⟩
  case rest =>
  obtain ⟨rfl, d1, F2, htm1, hTw1, hx1⟩ := hcut
  clear hTw hx htm
  generalize wc = wB at *
  have q1 := two_ctick HG1.out hc (by omega) hTw1
  have HBw : Hid (∀ w' F3 a3, WentC C w1 wB w' p (.slice ca p.code.length cc) (.slice sa p.spans.length sc) (.slice wa p.wires.length wc') (.slice oa p.code.length oc) what most (tickC p what most d1) cb F2 F3 a1 a3 mb tb p.code.length → Bx w w' (.slice ca p.code.length cc) p.ticks (.slice sa p.spans.length sc) (.slice wa p.wires.length wc')) := fun w' F3 a3 hw => Below.trans hx1 ((hw.touch.below hTw1.mge (C.since hTw1.K).size).mono hs1)
  have HTm : Hid ((tickC p what most d1).k.time ≤ (i : Int) + 1) := by
    show _ ≤ _
    rw [tickC_time]
    omega
  unfold evA at q1
  generalize (evC p what most d1).1 = t1 at q1
  generalize (evC p what most d1).2.1 = t2 at q1
  generalize (evC p what most d1).2.2.1 = t3 at q1
  generalize (evC p what most d1).2.2.2 = t4 at q1
  generalize tickC p what most d1 = d2 at q1 HBw HTm
  have heq := eql_ev
  clear hTw1 hx1 htm1
  go_step
  go_upto_region 22 with (first
    | (go_at_call 10; refine q1.mono ?_; rintro e w5 ⟨rfl, q2⟩; clear q1)
    | (go_at_call 11; refine q2.mono ?_; rintro e w6 ⟨rfl, F3, a3, hWt⟩; clear q2))
  have hTw := hWt.two
  have hx := HBw.out w6 F3 a3 hWt
  clear hWt HBw heq
  generalize w6 = wM at *
  have hflt := hTw.flt
  have hsb : wM.heap.size ∉ F3 ++ mb :: tb :: KF a3 := fun hm => by have := hflt _ hm; omega
  have hMw : w1.heap.size ≤ wM.heap.size := (C.since hTw.K).size
  go_upto_region 25 with fail
  have bMN : Below wM.heap.size wM (wM.alloc (.cells #[.int .i64 0, .int .i64 0, .int .i64 0, .int .i64 0, .int .i64 0, .int .i64 0, .int .i64 0, .bool false] 47)) := (Below.refl _ _).alloc (Nat.le_refl _) _
  have hst : StB (wM.alloc (.cells #[.int .i64 0, .int .i64 0, .int .i64 0, .int .i64 0, .int .i64 0, .int .i64 0, .int .i64 0, .bool false] 47)) wM.heap.size stNew := World.alloc_heap_new wM _
  replace hTw := hTw.all bMN
  replace hx := hx.step bMN
  clear bMN hflt
  generalize (wM.alloc (.cells #[.int .i64 0, .int .i64 0, .int .i64 0, .int .i64 0, .int .i64 0, .int .i64 0, .int .i64 0, .bool false] 47)) = wN at hst hTw hx ⊢
  generalize wM.heap.size = sb at hst hsb hMw ⊢
  have k0 := hx.c0
  have HRl : Hid (d2.k.rooms.length = p.code.length ∧ d2.ts.length = p.code.length) := ⟨hTw.ok.k.rl, hTw.ok.tl⟩
  go_cut [137] from 129 to 136 (fun s wx => s = .bool (noRoom d2.k r) ∧ wx = wN)
  case first =>
    by_cases h0 : r < 0
    · have HX : Hid (noRoom d2.k r = true) := by show _ = _; unfold noRoom; simp [h0]
      have h0' : decide (r < 0) = true := decide_eq_true h0
      go_wp2_with fail
      go_meet
      case rel => exact ⟨by rw [HX.out], rfl⟩
    · have h0' : decide (r < 0) = false := decide_eq_false h0
      have HX : Hid (noRoom d2.k r = decide ((p.code.length : Int) ≤ r)) := by show _ = _; unfold noRoom; rw [HRl.out.1]; simp [h0']
      go_wp2_with fail
      go_meet
      case rel => exact ⟨by rw [HX.out], rfl⟩
  case rest =>
  obtain ⟨rfl, hwc⟩ := hcut
  rw [hwc]
  clear hwc wc
  go_step
  go_cut [11, 20] from 137 to 154 (fun s11 s20 wx => s11 = .int .i64 (errB (noRoom d2.k r)) ∧ s20 = .int .i64 (timesC d2 r) ∧ StB wx sb (roomK d2.k r) ∧ KTouch [sb] wN wx)
  case first =>
    cases hno : noRoom d2.k r with
    | true =>
      have HX : Hid (roomK d2.k r = stNew) := by show _ = _; unfold roomK; rw [hno, if_pos rfl]
      have HY : Hid (timesC d2 r = 0) := by show _ = _; unfold timesC; rw [hno, if_pos rfl]
      have HNo : Hid (noRoom d2.k r = true) := hno
      have HST : Hid (StB wN sb stNew) := hst
      clear hst hTw hx k0 hno
      go_wp2_with fail
      go_meet
      case rel => exact ⟨by rw [HNo.out]; rfl, by rw [HY.out], by rw [HX.out]; exact HST.out, KTouch.refl _ _⟩
    | false =>
      have hrange : 0 ≤ r ∧ r < p.code.length := by
        unfold noRoom at hno
        rw [HRl.out.1] at hno
        simp only [Bool.or_eq_false_iff, decide_eq_false_iff_not] at hno
        omega
      obtain ⟨rn, rfl⟩ : ∃ n : Nat, r = n := ⟨r.toNat, by omega⟩
      have hrl : rn < d2.k.rooms.length := by rw [HRl.out.1]; omega
      have hri : (rn : Int) < (d2.k.rooms.length : Int) := by omega
      have htl : rn < d2.ts.length := by rw [HRl.out.2]; omega
      have hti : (rn : Int) < (d2.ts.length : Int) := by omega
      obtain ⟨s, hs⟩ : ∃ s, d2.k.rooms[rn]? = some s := ⟨_, List.getElem?_eq_getElem hrl⟩
      obtain ⟨t, ht⟩ : ∃ t, d2.ts[rn]? = some t := ⟨_, List.getElem?_eq_getElem htl⟩
      have HX : Hid (roomK d2.k (rn : Int) = s) := by show _ = _; unfold roomK; rw [hno, if_neg (by decide), Int.toNat_natCast]; simp [List.getD, hs]
      have HY : Hid (timesC d2 (rn : Int) = t) := by show _ = _; unfold timesC; rw [hno, if_neg (by decide), Int.toNat_natCast]; simp [List.getD, ht]
      have hth := hst.there 0
      have m0 := hTw.R.c0
      have m3 := hTw.R.c3
      have k4 := hTw.R.k.c4
      have tcl := hTw.R.ts rn t ht
      obtain ⟨s0, s1, s2, s3, s4, s5, s6, s7⟩ := hTw.R.k.rooms rn s hs
      have HST : Hid (StB wN sb stNew) := hst
      have HNo : Hid (noRoom d2.k (rn : Int) = false) := hno
      have hsne : mb ≠ sb ∧ tb ≠ sb := ⟨fun e => hsb (by rw [← e]; simp), fun e => hsb (by rw [← e]; simp)⟩
      have hmt := hTw.R.lt
      clear hs ht hst hTw hx k0 hno
      go_upto_region 28 with (refine wpList_store_mid rfl 47 _ _ rfl sb 0 #[.int .i64 s.p, .int .i64 (s.c 0), .int .i64 (s.c 1), .int .i64 (s.c 2), .int .i64 (s.c 3), .int .i64 (s.c 4), .int .i64 (s.c 5), .bool s.f] rfl rfl hth (by kernel_rfl) (by simp [Value.oneCell']) ?_)
      have tkS : KTouch [sb] wN (setSt wN sb 0 s) := setSt_touch wN (by simp) 0 s
      have hst2 : StB (setSt wN sb 0 s) sb s := HST.out.set s
      replace m3 := (World.cell?_of_block (w := wN) (w' := setSt wN sb 0 s) (a := ⟨mb, 3, none⟩) (tkS.block mb hmt.1 (by simpa using hsne.1))).trans m3
      replace tcl := (World.cell?_of_block (w := wN) (w' := setSt wN sb 0 s) (a := ⟨tb, rn, none⟩) (tkS.block tb hmt.2 (by simpa using hsne.2))).trans tcl
      clear m0 k4 s0 s1 s2 s3 s4 s5 s6 s7 hth
      change Code.wp _ _ _ _ (setSt wN sb 0 s)
      generalize setSt wN sb 0 s = wS at *
      go_wp2_with fail
      go_meet
      case rel => exact ⟨by rw [HNo.out]; rfl, by rw [HY.out], by rw [HX.out]; exact hst2, tkS⟩
  case rest =>
  obtain ⟨rfl, rfl, hst', tk⟩ := hcut
  generalize wc = wP at *
  replace hTw := hTw.set tk hsb hMw
  replace hx : Bx w wP (.slice ca p.code.length cc) p.ticks (.slice sa p.spans.length sc) (.slice wa p.wires.length wc') := Below.trans hx (tk.below (B := w.heap.size + 1) (by simp; omega) hx.size)
  clear hst tk k0
  have hnq := eql_st
  obtain ⟨s, hs⟩ : ∃ s, s = roomK d2.k r := ⟨_, rfl⟩
  obtain ⟨z, hz⟩ : ∃ z, z = errB (noRoom d2.k r) := ⟨_, rfl⟩
  obtain ⟨tm, htmd⟩ : ∃ t, t = timesC d2 r := ⟨_, rfl⟩
  obtain ⟨ve, hve⟩ : ∃ ve, ve = wErr z := ⟨_, rfl⟩
  have HSt : Hid (Calls Tryz.prog 12 #[.pointer (some ⟨cb, 0, none⟩), .int .i64 r] wP fun e w5 => e = .returned (.tuple #[.agg #[.int .i64 s.p, .int .i64 (s.c 0), .int .i64 (s.c 1), .int .i64 (s.c 2), .int .i64 (s.c 3), .int .i64 (s.c 4), .int .i64 (s.c 5), .bool s.f], ve]) ∧
      Calls Tryz.prog 6 #[ve, .int .i64 z] (w5.alloc (.cells #[.int .i64 s.p, .int .i64 (s.c 0), .int .i64 (s.c 1), .int .i64 (s.c 2), .int .i64 (s.c 3), .int .i64 (s.c 4), .int .i64 (s.c 5), .bool s.f] 47)) fun r' w6 => r' = .returned (.bool true) ∧ (StB w6 w5.heap.size s ∧ StB w6 sb s) ∧
      Calls Tryz.prog 13 #[.pointer (some ⟨cb, 0, none⟩), .int .i64 r] w6 fun e w7 => e = .returned (.tuple #[.int .i64 tm, ve]) ∧
      Calls Tryz.prog 6 #[ve, .int .i64 z] w7 fun r' w8 => r' = .returned (.bool true) ∧ Below wP.heap.size wP w8) := by
    refine (C.state r hTw.K hTw.ok hc).mono ?_
    rintro e w5 ⟨rfl, b5⟩
    refine ⟨by rw [hve, hz, hs]; rfl, ?_⟩
    have b5a : Below wP.heap.size wP (w5.alloc (.cells #[.int .i64 s.p, .int .i64 (s.c 0), .int .i64 (s.c 1), .int .i64 (s.c 2), .int .i64 (s.c 3), .int .i64 (s.c 4), .int .i64 (s.c 5), .bool s.f] 47)) := b5.alloc b5.size _
    have hq := HE.out z _ (HG.out _ (hx.below.trans (b5a.mono hx.below.size)))
    rw [← hve] at hq
    refine hq.mono ?_
    rintro r' w6 ⟨rfl, b6⟩
    have b6a := b5a.trans (b6.mono b5a.size)
    refine ⟨rfl, ⟨(b6.block _ (by simp)).trans (World.alloc_heap_new w5 _), ?_⟩, ?_⟩
    · rw [hs]
      have hlt := (Array.getElem?_eq_some_iff.1 hst').1
      exact (b6a.block sb hlt).trans hst'
    · refine (C.times r (C.frame hTw.K (KTouch.of (M := []) b6a) (by simp)) hTw.ok hc).mono ?_
      rintro e w7 ⟨rfl, b7⟩
      refine ⟨by rw [hve, hz, htmd], ?_⟩
      have b7a := b6a.trans (b7.mono b6a.size)
      have hq2 := HE.out z _ (HG.out _ (hx.below.trans (b7a.mono hx.below.size)))
      rw [← hve] at hq2
      refine hq2.mono ?_
      rintro r' w8 ⟨rfl, b8⟩
      exact ⟨rfl, b7a.trans (b8.mono b7a.size)⟩
  rw [← hz, ← htmd]
  clear hs hz hve hst' htmd
  go_step
  go_upto_region 33 with (first
    | (go_at_call 12; refine HSt.out.mono ?_; rintro e w5 ⟨rfl, q2⟩; clear HSt)
    | (go_at_call 6; refine q2.mono ?_; rintro r' w6 ⟨rfl, ⟨hb1, hb2⟩, q3⟩; clear q2; obtain ⟨e0, e1, e2, e3, e4, e5, e6, e7⟩ := hb1.cs; obtain ⟨f0, f1, f2, f3, f4, f5, f6, f7⟩ := hb2.cs; simp only [Nat.zero_add] at e1 e2 e3 e4 e5 e6 e7 f1 f2 f3 f4 f5 f6 f7)
    | (go_at_call 13; refine q3.mono ?_; rintro e w7 ⟨rfl, q4⟩; clear q3)
    | (go_at_call 6; refine q4.mono ?_; rintro r' w8 ⟨rfl, b8⟩; clear q4))
  replace hTw := hTw.all b8
  replace hx := hx.step b8
  clear b8 hb1 hb2 e0 e1 e2 e3 e4 e5 e6 e7 f0 f1 f2 f3 f4 f5 f6 f7 hnq hsb hMw
  have HFin : Hid (TwoC C w1 w8 p (.slice ca p.code.length cc) (.slice sa p.spans.length sc) (.slice wa p.wires.length wc') (.slice oa p.code.length oc) what most d2 cb F3 a3 mb tb p.code.length ∧ Bx w w8 (.slice ca p.code.length cc) p.ticks (.slice sa p.spans.length sc) (.slice wa p.wires.length wc')) := ⟨hTw, hx⟩
  clear hTw hx
  go_wp2
  go_roundw
  case rel => exact ⟨i + 1, d2, F3, a3, by omega, rfl, by go_num, (by have := HTm.out; push_cast; omega), HFin.out.1, HFin.out.2⟩
  case measure => simp [intOf]; omega
theorem cplays_of {G : World → Prop} (C : CarC G) (CP : CarPoke C) (hE : ∀ (e : Int) (W : World), G W → Calls Tryz.prog 6 #[wErr e, .int .i64 e] W fun r w' => r = .returned (.bool true) ∧ Below W.heap.size W w')
    (hR : ∀ (p : PD) (vc vs vw : Value) (W : World), Pln W vc vs vw p → Calls Tryz.prog 4 #[plV vc p.ticks vs vw] W fun e w' => e = .returned (.int .i64 (plchk p)) ∧ Below W.heap.size W w')
    (p : PD) (vc vs vw wv : Value) (what : List Int) (most n r : Int) (w : World) (hG : G w) (hP : Pln w vc vs vw p) (hW : Stp w wv what) :
    Calls Tryz.prog 3 #[plV vc p.ticks vs vw, wv, .int .i64 most, .int .i64 n, .int .i64 r] w fun e w' => e = .returned (.bool true) ∧ Below w.heap.size w w' := by
  by_cases hc : carE p what most = 0
  · exact cplays_ok C CP hE hR p vc vs vw wv what most n r w hG hP hW hc
  · exact cplays_no C hE hR p vc vs vw wv what most n r w hG hP hW hc
end Go.Proofs.YtajfgmlockjmhafGreatDoor
namespace Go.Proofs.YtajfgmlockjmhafGreatDoor
open Go.RowKit

set_option maxRecDepth 100000 in
set_option maxHeartbeats 4000000 in
theorem crpoke_any (p : PD) (what : List Int) (most : Int) (d : CD) (cb base : Nat) (x : CW) (r c n : Int) (w : World) (h : GC w base p what most d cb x) :
    Calls Tryz.prog 8 #[.pointer (some ⟨cb, 0, none⟩), .int .i64 r, .int .i64 c, .int .i64 n] w fun e w' => e = .returned (wErr (pokeN d.k r c n)) ∧ GC w' base p what most ⟨pokeK d.k r c n, d.ts⟩ cb x ∧ KTouch (x.F cb) w w' := by
  have HP : Hid (Calls Tryz.prog 22 #[.pointer (some ⟨x.kb, 0, none⟩), .int .i64 r, .int .i64 c, .int .i64 n] w fun e w' => e = .returned (wErr (pokeN d.k r c n)) ∧ GK w' base p (pokeK d.k r c n) x.kb x.a ∧ KTouch (x.a.F x.kb) w w') := gpoke_any p d.k x.kb base x.a r c n w h.k
  have c0 := h.c0
  have H : Hid (GC w base p what most d cb x) := h
  clear h
  generalize wErr (pokeN d.k r c n) = ev at HP ⊢
  go_enter Tryz.func8, Tryz.ntmps8
  go_wp2_with (go_at_call 22; refine HP.out.mono ?_; rintro e w1 ⟨rfl, hg, tk⟩)
  go_ret
  exact ⟨rfl, H.out.kern tk hg (fun g hg => Or.inl hg), tk.mono (fun m hm => by simp [CW.F, hm])⟩
theorem gcar_poke {G : World → Prop} (hG : ∀ w, G w → Forms w) (hall : ∀ w w', G w → Below w.heap.size w w' → G w') : CarPoke (gcar hG hall) := fun {w0 W p what most d cb F} r c n ⟨x, h, hF, hb⟩ _ _ => by
  subst hF
  refine (crpoke_any p what most d cb _ x r c n W h).mono ?_
  rintro e w' ⟨rfl, h1, h2⟩
  exact ⟨rfl, _, ⟨x, h1, rfl, hb.trans (h2.below h.fge hb.size)⟩, h2, fun g hg => Or.inl hg⟩
end Go.Proofs.YtajfgmlockjmhafGreatDoor
