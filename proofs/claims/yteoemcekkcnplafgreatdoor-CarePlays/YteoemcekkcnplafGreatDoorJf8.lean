/-
  KFrame, RCare0, KRefTk: joined into one text.
-/
import Derived.Test.YteoemcekkcnplafGreatDoorKRefTick
import Derived.Test.YteoemcekkcnplafGreatDoorKRefNew
import Derived.Test.YteoemcekkcnplafGreatDoorJf4
import Derived.Test.YteoemcekkcnplafGreatDoorJf3
import Derived.Test.YteoemcekkcnplafGreatDoorJf2
import Derived.Test.YteoemcekkcnplafGreatDoorJf1
import Derived.Deep.CutRange
import Derived.Deep.RegionWith
import Derived.BigQuiet
import Derived.RangeFuncNested
namespace Go.Proofs.YteoemcekkcnplafGreatDoor
open Go.RowKit

/-- The blocks of the document's kernel. -/
def KF (a : KW) : List Nat := a.kb :: a.rb :: a.lr :: (a.bs ++ a.us.filterMap Value.ownBlock)
theorem KF.m {a : KW} : ∀ g ∈ a.m, g ∈ KF a := fun g hg => by
  unfold KW.m at hg
  unfold KF
  simp only [List.mem_cons, List.mem_append] at hg ⊢
  rcases hg with h | h | h
  · exact Or.inl h
  · exact Or.inr (Or.inl h)
  · exact Or.inr (Or.inr (Or.inr (Or.inl h)))
theorem KF.us {a : KW} {us : List Value} {n : Nat} (h : ∀ u ∈ us, ∀ g, u.ownBlock = some g → OldU a g ∨ n ≤ g) : ∀ g ∈ KF { a with us := us }, g ∈ KF a ∨ n ≤ g := fun g hg => by
  unfold KF at hg ⊢
  simp only [List.mem_cons, List.mem_append, List.mem_filterMap] at hg ⊢
  rcases hg with h1 | h1 | h1 | h1 | ⟨u, h1, h2⟩
  · exact Or.inl (Or.inl h1)
  · exact Or.inl (Or.inr (Or.inl h1))
  · exact Or.inl (Or.inr (Or.inr (Or.inl h1)))
  · exact Or.inl (Or.inr (Or.inr (Or.inr (Or.inl h1))))
  · rcases h u h1 g h2 with ⟨u0, h3, h4⟩ | h3
    · exact Or.inl (Or.inr (Or.inr (Or.inr (Or.inr ⟨u0, h3, h4⟩))))
    · exact Or.inr h3
theorem RK.flt {w : World} {base : Nat} {p : PD} {vc vs vw : Value} {k : KD} {a : KW} (h : RK w base p vc vs vw k a) : ∀ g ∈ KF a, g < w.heap.size := fun g hg => by
  have hle := h.le
  unfold KF at hg
  simp only [List.mem_cons, List.mem_append, List.mem_filterMap] at hg
  rcases hg with h1 | h1 | h1 | h1 | ⟨u, h1, h2⟩
  · have := h.lt.1; omega
  · have := h.lt.2.1; omega
  · have := h.lt.2.2.1; omega
  · have := h.lt.2.2.2 g h1; omega
  · exact (h.rows u h1 g h2).2
/-- What is written elsewhere leaves it as it is. -/
theorem RK.frame {w w' : World} {base : Nat} {p : PD} {vc vs vw : Value} {k : KD} {a : KW} (h : RK w base p vc vs vw k a) {M : List Nat} (ht : KTouch M w w') (hM : ∀ m ∈ M, m ∉ KF a) : RK w' base p vc vs vw k a := by
  have hin : ∀ g, g ∈ KF a → w'.heap[g]? = w.heap[g]? := fun g hg => ht.block g (h.flt g hg) (fun hm => hM g hm hg)
  have m1 : a.kb ∈ KF a := by simp [KF]
  have m2 : a.rb ∈ KF a := by simp [KF]
  have m3 : a.lr ∈ KF a := by simp [KF]
  have m4 : ∀ b ∈ a.bs, b ∈ KF a := fun b hb => by simp [KF, hb]
  have m5 : ∀ u ∈ a.us, ∀ g, u.ownBlock = some g → g ∈ KF a := fun u hu g hg => by
    unfold KF
    simp only [List.mem_cons, List.mem_append, List.mem_filterMap]
    exact Or.inr (Or.inr (Or.inr (Or.inr ⟨u, hu, hg⟩)))
  have hc := fun o => World.cell?_of_block (w := w) (w' := w') (a := ⟨a.kb, o, none⟩) (hin _ m1)
  have hf := fun o => World.frozen?_of_block (w := w) (w' := w') (a := ⟨a.kb, o, none⟩) (hin _ m1)
  have hrf := fun o => World.frozen?_of_block (w := w) (w' := w') (a := ⟨a.rb, o, none⟩) (hin _ m2)
  have hlr := fun o => World.cell?_of_block (w := w) (w' := w') (a := ⟨a.lr, o, none⟩) (hin _ m3)
  refine ⟨(hc 0).trans h.c0, (hc 1).trans h.c1, (hc 2).trans h.c2, (hc 3).trans h.c3, (hc 4).trans h.c4, (hc 5).trans h.c5, (hc 6).trans h.c6, (hf 6).trans h.f6, fun i s hs => (h.rooms i s hs).block (hin _ m2), fun o => (hrf o).trans (h.rf o), h.lv, fun i b hi => (hlr i).trans (h.ptr i b hi), h.bl, h.ul, fun i l b u h1 h2 h3 => (h.line i l b u h1 h2 h3).touch ht (fun hm => ?_) (fun g hg hm => ?_), h.ge, h.lt, Nat.le_trans h.le ht.size, h.apart, h.two, h.ft.block (fun b hb => hin b (m4 b hb))⟩
  · exact hM b hm (m4 b (List.mem_of_getElem? h2))
  · exact hM g hm (m5 u (List.mem_of_getElem? h3) g hg)
theorem RK.lower {w : World} {base base' : Nat} {p : PD} {vc vs vw : Value} {k : KD} {a : KW} (h : RK w base p vc vs vw k a) (hb : base' ≤ base) : RK w base' p vc vs vw k a :=
  ⟨h.c0, h.c1, h.c2, h.c3, h.c4, h.c5, h.c6, h.f6, h.rooms, h.rf, h.lv, h.ptr, h.bl, h.ul, h.line, ⟨Nat.le_trans hb h.ge.1, Nat.le_trans hb h.ge.2.1, fun b hm => Nat.le_trans hb (h.ge.2.2 b hm)⟩, h.lt, h.le, h.apart, h.two, h.ft⟩
end Go.Proofs.YteoemcekkcnplafGreatDoor
namespace Go.Proofs.YteoemcekkcnplafGreatDoor
open Go.RowKit

structure RC (w : World) (base : Nat) (p : PD) (vc vs vw wv : Value) (most : Int) (d : CD) (a : KW) (mb tb tc : Nat) : Prop where
  k : RK w base p vc vs vw d.k a
  c0 : w.cell? ⟨mb, 0, none⟩ = some (.pointer (some ⟨a.kb, 0, none⟩))
  c1 : w.cell? ⟨mb, 1, none⟩ = some wv
  c2 : w.cell? ⟨mb, 2, none⟩ = some (.int .i64 most)
  c3 : w.cell? ⟨mb, 3, none⟩ = some (.slice (some ⟨tb, 0, none⟩) d.ts.length tc)
  ts : ∀ (i : Nat) t, d.ts[i]? = some t → w.cell? ⟨tb, i, none⟩ = some (.int .i64 t)
  tf : ∀ o, w.frozen? ⟨tb, o, none⟩ = false
  ge : base ≤ mb ∧ base ≤ tb
  lt : mb < w.heap.size ∧ tb < w.heap.size
  ap : mb ∉ KF a ∧ tb ∉ KF a ∧ mb ≠ tb
section
variable {w w' : World} {base : Nat} {p : PD} {vc vs vw wv : Value} {most : Int} {d : CD} {a : KW} {mb tb tc : Nat}
/-- The kernel of it is another one, what else it has is as it was. -/
theorem RC.kern (h : RC w base p vc vs vw wv most d a mb tb tc) {M : List Nat} (ht : KTouch M w w') (hM : ∀ m ∈ M, m ≠ mb ∧ m ≠ tb) {k' : KD} {a' : KW} (hk : RK w' base p vc vs vw k' a') (ha : a'.kb = a.kb) (hap : mb ∉ KF a' ∧ tb ∉ KF a') : RC w' base p vc vs vw wv most ⟨k', d.ts⟩ a' mb tb tc := by
  have hm : w'.heap[mb]? = w.heap[mb]? := ht.block mb h.lt.1 (fun e => (hM mb e).1 rfl)
  have hb : w'.heap[tb]? = w.heap[tb]? := ht.block tb h.lt.2 (fun e => (hM tb e).2 rfl)
  have hc := fun o => World.cell?_of_block (w := w) (w' := w') (a := ⟨mb, o, none⟩) hm
  have hd := fun o => World.cell?_of_block (w := w) (w' := w') (a := ⟨tb, o, none⟩) hb
  have hf := fun o => World.frozen?_of_block (w := w) (w' := w') (a := ⟨tb, o, none⟩) hb
  have hs := ht.size
  have h1 := h.lt
  exact ⟨hk, by rw [ha]; exact (hc 0).trans h.c0, (hc 1).trans h.c1, (hc 2).trans h.c2, (hc 3).trans h.c3, fun i t hi => (hd i).trans (h.ts i t hi), fun o => (hf o).trans (h.tf o), h.ge, ⟨by omega, by omega⟩, ⟨hap.1, hap.2, h.ap.2.2⟩⟩
/-- What is written elsewhere leaves it as it is. -/
theorem RC.frame (h : RC w base p vc vs vw wv most d a mb tb tc) {M : List Nat} (ht : KTouch M w w') (hM : ∀ m ∈ M, m ≠ mb ∧ m ≠ tb ∧ m ∉ KF a) : RC w' base p vc vs vw wv most d a mb tb tc :=
  h.kern ht (fun m hm => ⟨(hM m hm).1, (hM m hm).2.1⟩) (h.k.frame ht (fun m hm => (hM m hm).2.2)) rfl ⟨h.ap.1, h.ap.2.1⟩
theorem RC.all (h : RC w base p vc vs vw wv most d a mb tb tc) (hb : Below w.heap.size w w') : RC w' base p vc vs vw wv most d a mb tb tc := h.frame (KTouch.of (M := []) hb) (by simp)
/-- One room was helped once more. -/
theorem RC.tset (h : RC w base p vc vs vw wv most d a mb tb tc) {i : Nat} {t : Int} (hi : d.ts[i]? = some t) (n : Int) : RC (w.setCell ⟨tb, i, none⟩ (.int .i64 n)) base p vc vs vw wv most ⟨d.k, d.ts.set i n⟩ a mb tb tc := by
  have ht : KTouch [tb] w (w.setCell ⟨tb, i, none⟩ (.int .i64 n)) := KTouch.set w (by simp) _ _
  have hm : (w.setCell ⟨tb, i, none⟩ (.int .i64 n)).heap[mb]? = w.heap[mb]? := Below.heap_setCell _ _ _ _ h.ap.2.2
  have hc := fun o => World.cell?_of_block (w := w) (w' := w.setCell ⟨tb, i, none⟩ (.int .i64 n)) (a := ⟨mb, o, none⟩) hm
  have hil := (List.getElem?_eq_some_iff.1 hi).1
  refine ⟨h.k.frame ht (fun m hm => by rw [List.mem_singleton] at hm; subst hm; exact h.ap.2.1), (hc 0).trans h.c0, (hc 1).trans h.c1, (hc 2).trans h.c2, by simp only [List.length_set]; exact (hc 3).trans h.c3, fun j u hj => ?_, fun o => (World.frozen?_setCell _ _ _ _).trans (h.tf o), h.ge, by simpa using h.lt, h.ap⟩
  simp only at hj
  by_cases hij : i = j
  · subst hij
    rw [List.getElem?_set_self hil] at hj
    obtain rfl := Option.some.inj hj
    simp [go_sem, h.ts i t hi]
  · rw [List.getElem?_set_ne hij] at hj
    rw [setCell_far (fun e => hij e.symm)]
    exact h.ts j u hj
theorem RC.flt (h : RC w base p vc vs vw wv most d a mb tb tc) : ∀ g ∈ mb :: tb :: KF a, g < w.heap.size := fun g hg => by
  rcases List.mem_cons.1 hg with rfl | hg
  · exact h.lt.1
  · rcases List.mem_cons.1 hg with rfl | hg
    · exact h.lt.2
    · exact h.k.flt g hg
theorem RC.mge (h : RC w base p vc vs vw wv most d a mb tb tc) : ∀ g ∈ tb :: a.m, base ≤ g := fun g hg => by
  rcases List.mem_cons.1 hg with rfl | hg
  · exact h.ge.2
  · exact h.k.mge g hg
end
theorem mKF {a : KW} : a.kb ∈ KF a ∧ a.rb ∈ KF a := ⟨by simp [KF], by simp [KF]⟩
/-- A room of a kernel is another one: two of its cells are written. -/
theorem on_st {w : World} {b o : Nat} {s : St} (h : StC w b o s) (n : Int) : StC ((w.setCell ⟨b, o, none⟩ (.int .i64 n)).setCell ⟨b, o + 7, none⟩ (.bool false)) b o ⟨n, s.c, false⟩ := by
  obtain ⟨h0, h1, h2, h3, h4, h5, h6, h7⟩ := h
  refine ⟨?_, ?_, ?_, ?_, ?_, ?_, ?_, ?_⟩ <;> simp [go_sem, h0, h1, h2, h3, h4, h5, h6, h7]
theorem RK.on {w : World} {base : Nat} {p : PD} {vc vs vw : Value} {k : KD} {a : KW} (h : RK w base p vc vs vw k a) {r : Nat} {s : St} (hr : k.rooms[r]? = some s) (n : Int) : RK ((w.setCell ⟨a.rb, r * 8, none⟩ (.int .i64 n)).setCell ⟨a.rb, r * 8 + 7, none⟩ (.bool false)) base p vc vs vw ⟨k.rooms.set r ⟨n, s.c, false⟩, k.lines, k.time⟩ a :=
  h.room_at hr ((KTouch.set w (by simp) _ _).trans (KTouch.set _ (by simp) _ _)) (on_st (h.rooms r s hr) n) (fun i hi => by rw [setCell_far (by omega), setCell_far (by omega)]) (fun i => by simp only [World.frozen?_setCell])
end Go.Proofs.YteoemcekkcnplafGreatDoor
namespace Go.Proofs.YteoemcekkcnplafGreatDoor
open Go.RowKit

/-- Tick: by the plan's own spans. -/
theorem reftick_any (p : PD) (vc vw : Value) (sa : Option Addr) (sc : Nat) (k : KD) (a : KW) (base : Nat) (w : World) (hp : plchk p = 0) (hk : KOk p k) (ht : k.time < 1000000) (h : RK w base p vc (.slice sa p.spans.length sc) vw k a) (w0 : World) (hw00 : base = w0.heap.size) (hb0 : Below w0.heap.size w0 w) (hP : Pln w0 vc (.slice sa p.spans.length sc) vw p) :
    Calls Tryz.prog 27 #[.pointer (some ⟨a.kb, 0, none⟩)] w fun e w' => e = .returned (.agg #[.int .i64 (tickK p p.spans k).2.1, .int .i64 (tickK p p.spans k).2.2.1, .int .i64 (tickK p p.spans k).2.2.2.1, .int .i64 (tickK p p.spans k).2.2.2.2]) ∧ (∃ us, RK w' base p vc (.slice sa p.spans.length sc) vw (tickK p p.spans k).1 { a with us := us } ∧ ∀ u ∈ us, ∀ g, u.ownBlock = some g → OldU a g ∨ w.heap.size ≤ g) ∧ KTouch a.m w w' := by
  have hB : Below w.heap.size w (w.alloc (.cells #[.int .i64 0, .int .i64 0, .int .i64 0, .int .i64 0] 43)) := (Below.refl _ w).alloc (Nat.le_refl _) _
  have h1 := h.all hB
  have c2 := h1.c2
  have hq := tickby_any p vc (.slice sa p.spans.length sc) vw p.spans sa sc k a base _ hp hk ht h1 w0 hw00 (hb0.trans (hB.mono hb0.size)) hP.code hP.spans (fchk_zero (plchk_zero hp).2.2.1).2.2.1 (fun t => who_room hp t)
  obtain ⟨t1, ht1⟩ : ∃ x, (tickK p p.spans k).2.1 = x := ⟨_, rfl⟩
  obtain ⟨t2, ht2⟩ : ∃ x, (tickK p p.spans k).2.2.1 = x := ⟨_, rfl⟩
  obtain ⟨t3, ht3⟩ : ∃ x, (tickK p p.spans k).2.2.2.1 = x := ⟨_, rfl⟩
  obtain ⟨t4, ht4⟩ : ∃ x, (tickK p p.spans k).2.2.2.2 = x := ⟨_, rfl⟩
  obtain ⟨k', hk'⟩ : ∃ x, (tickK p p.spans k).1 = x := ⟨_, rfl⟩
  rw [ht1, ht2, ht3, ht4, hk'] at hq
  rw [ht1, ht2, ht3, ht4, hk']
  clear ht1 ht2 ht3 ht4 hk' hP hp hk
  have hmlt : w.heap.size ∉ a.m := fun hm => by have := h.mlt _ hm; have := h.le; omega
  have hle := h.le
  have hold : ∀ g, OldU a g → g < w.heap.size := fun g ⟨u, h2, h3⟩ => (h.rows u h2 g h3).2
  have hbox : (w.alloc (.cells #[.int .i64 0, .int .i64 0, .int .i64 0, .int .i64 0] 43)).heap[w.heap.size]? = some (.cells #[.int .i64 0, .int .i64 0, .int .i64 0, .int .i64 0] 43 (0, 0)) := World.alloc_heap_new w _
  go_enter Tryz.func27, Tryz.ntmps27
  have hst : ∀ w1 : World, KTouch a.m (w.alloc (.cells #[.int .i64 0, .int .i64 0, .int .i64 0, .int .i64 0] 43)) w1 → EvB w1 w.heap.size 0 0 0 0 := fun w1 hk => (hk.block _ (by simp) hmlt).trans hbox
  go_wp2_with (go_at_call 42; refine hq.mono ?_; rintro e w1 ⟨rfl, ⟨us, hr, hu⟩, tk⟩; clear hq; have hev := hst w1 tk; obtain ⟨v0, v1, v2, v3⟩ := hev.cs; obtain ⟨x0, x1, x2, x3⟩ := hev.fs)
  have tkE : KTouch [w.heap.size] w1 ((((w1.setCell ⟨w.heap.size, 0, none⟩ (.int .i64 t1)).setCell ⟨w.heap.size, 1, none⟩ (.int .i64 t2)).setCell ⟨w.heap.size, 2, none⟩ (.int .i64 t3)).setCell ⟨w.heap.size, 3, none⟩ (.int .i64 t4)) := (((KTouch.set w1 (by simp) 0 _).trans (KTouch.set _ (by simp) 1 _)).trans (KTouch.set _ (by simp) 2 _)).trans (KTouch.set _ (by simp) 3 _)
  have hu2 : ∀ u ∈ us, ∀ g, u.ownBlock = some g → OldU a g ∨ w.heap.size + 1 ≤ g := fun u h2 g hg => by
    have := hu u h2 g hg
    rw [World.size_alloc] at this
    exact this
  refine bodyPost_ret (v := .agg #[.int .i64 t1, .int .i64 t2, .int .i64 t3, .int .i64 t4]) ?_ rfl ⟨rfl, ⟨us, hr.touch tkE (fun m hm => ?_), fun u h2 g hg => (hu2 u h2 g hg).imp id (fun h => by omega)⟩, ((KTouch.of hB).trans tk).more tkE (by simp)⟩
  · simp [results, Tryz.results27, go_sem, v0, v1, v2, v3]
  · rw [List.mem_singleton] at hm
    subst hm
    refine ⟨hle, fun u h2 hg => ?_⟩
    rcases hu2 u h2 _ hg with h3 | h3
    · have := hold _ h3
      omega
    · omega
end Go.Proofs.YteoemcekkcnplafGreatDoor
