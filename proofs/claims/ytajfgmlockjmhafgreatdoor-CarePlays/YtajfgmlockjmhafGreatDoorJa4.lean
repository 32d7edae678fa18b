/-
  GKern, CrKern, GNew0, WOut, WSend, WTake, WDel, WTake2, DLineOps, GSmall, GPoke, RefFrame: joined into one text.
-/
import Derived.Test.YtajfgmlockjmhafGreatDoorJa3
import Derived.Test.YtajfgmlockjmhafGreatDoorJa2
import Derived.Test.YtajfgmlockjmhafGreatDoorJa1
import Derived.OneCell
import Derived.Deep.RegionLaw
import Derived.Deep.RegionWith
import Derived.Lib.SliceRun
import Derived.Deep.RegionHeld3
import Derived.Deep.CutRange
import Derived.BigQuiet
import Derived.RangeFuncNested
import Derived.Deep.QuietTactic
import Derived.WalkSmall
namespace Go.Proofs.YtajfgmlockjmhafGreatDoor
open Go.RowKit

/-- Where it lies. -/
structure GW where
  cv : Value
  sv : Value
  F0 : List Nat
  rb : Nat
  rcap : Nat
  lv : Value
  lr : Nat
  b1 : Nat
  bs : List Nat
  us : List Value
/-- All its blocks. -/
def GW.F (kb : Nat) (a : GW) : List Nat := kb :: a.rb :: (a.F0 ++ DF a.lr a.bs a.us)
/-- The plan's code and spans, copied: they lie in the blocks F0. -/
def Src (w : World) (F0 : List Nat) (cv sv : Value) (p : PD) : Prop := ∀ w', w.heap.size ≤ w'.heap.size → (∀ b ∈ F0, w'.heap[b]? = w.heap[b]?) → Cds w' cv p.code ∧ Sps w' sv p.spans
theorem Src.here {w : World} {F0 : List Nat} {cv sv : Value} {p : PD} (h : Src w F0 cv sv p) : Cds w cv p.code ∧ Sps w sv p.spans := h w (Nat.le_refl _) (fun _ _ => rfl)
theorem Src.kept {w w' : World} {F0 : List Nat} {cv sv : Value} {p : PD} (h : Src w F0 cv sv p) (hs : w.heap.size ≤ w'.heap.size) (hb : ∀ b ∈ F0, w'.heap[b]? = w.heap[b]?) : Src w' F0 cv sv p := fun w2 h2 hb2 => h w2 (Nat.le_trans hs h2) (fun b hm => (hb2 b hm).trans (hb b hm))
structure GK (w : World) (base : Nat) (p : PD) (k : KD) (kb : Nat) (a : GW) : Prop where
  c0 : w.cell? ⟨kb, 0, none⟩ = some a.cv
  c1 : w.cell? ⟨kb, 1, none⟩ = some (.int .i64 p.ticks)
  c2 : w.cell? ⟨kb, 2, none⟩ = some a.sv
  c3 : w.cell? ⟨kb, 3, none⟩ = some (.slice (some ⟨a.rb, 0, none⟩) k.rooms.length a.rcap)
  c4 : w.cell? ⟨kb, 4, none⟩ = some a.lv
  c5 : w.cell? ⟨kb, 5, none⟩ = some (.int .i64 k.time)
  f5 : w.frozen? ⟨kb, 5, none⟩ = false
  f2 : w.frozen? ⟨kb, 2, none⟩ = false
  src : Src w a.F0 a.cv a.sv p
  rooms : ∀ (i : Nat) s, k.rooms[i]? = some s → StC w a.rb (i * 8) s
  rf : ∀ o, w.frozen? ⟨a.rb, o, none⟩ = false
  lines : DLs w a.b1 a.lr a.lv a.bs a.us k.lines
  ge : ∀ g ∈ a.F kb, base ≤ g
  lt : kb < w.heap.size ∧ a.rb < w.heap.size ∧ ∀ g ∈ a.F0, g < w.heap.size
  ap : kb ≠ a.rb ∧ kb ∉ DF a.lr a.bs a.us ∧ a.rb ∉ DF a.lr a.bs a.us
  ap0 : kb ∉ a.F0 ∧ a.rb ∉ a.F0 ∧ ∀ g ∈ a.F0, g ∉ DF a.lr a.bs a.us
theorem GK.flt {w : World} {base : Nat} {p : PD} {k : KD} {kb : Nat} {a : GW} (h : GK w base p k kb a) : ∀ g ∈ a.F kb, g < w.heap.size := fun g hg => by
  unfold GW.F at hg
  rcases List.mem_cons.1 hg with h1 | h1
  · rw [h1]; exact h.lt.1
  · rcases List.mem_cons.1 h1 with h2 | h2
    · rw [h2]; exact h.lt.2.1
    · rcases List.mem_append.1 h2 with h3 | h3
      · exact h.lt.2.2 g h3
      · exact h.lines.flt g h3
/-- What is written elsewhere leaves it as it is. -/
theorem GK.frame {w w' : World} {base : Nat} {p : PD} {k : KD} {kb : Nat} {a : GW} (h : GK w base p k kb a) {M : List Nat} (ht : KTouch M w w') (hM : ∀ m ∈ M, m ∉ a.F kb) : GK w' base p k kb a := by
  have m1 : kb ∈ a.F kb := by simp [GW.F]
  have m2 : a.rb ∈ a.F kb := by simp [GW.F]
  have m3 : ∀ g ∈ a.F0, g ∈ a.F kb := fun g hg => by simp [GW.F, hg]
  have m4 : ∀ g ∈ DF a.lr a.bs a.us, g ∈ a.F kb := fun g hg => by simp [GW.F, hg]
  have b1 := ht.block kb h.lt.1 (fun hm => hM _ hm m1)
  have b2 := ht.block a.rb h.lt.2.1 (fun hm => hM _ hm m2)
  have hc := fun o => World.cell?_of_block (w := w) (w' := w') (a := ⟨kb, o, none⟩) b1
  have hf := fun o => World.frozen?_of_block (w := w) (w' := w') (a := ⟨kb, o, none⟩) b1
  have hrf := fun o => World.frozen?_of_block (w := w) (w' := w') (a := ⟨a.rb, o, none⟩) b2
  have hs := ht.size
  exact ⟨(hc 0).trans h.c0, (hc 1).trans h.c1, (hc 2).trans h.c2, (hc 3).trans h.c3, (hc 4).trans h.c4, (hc 5).trans h.c5, (hf 5).trans h.f5, (hf 2).trans h.f2, h.src.kept hs (fun b hb => ht.block b (h.lt.2.2 b hb) (fun hm => hM b hm (m3 b hb))), fun i s hs => (h.rooms i s hs).block b2, fun o => (hrf o).trans (h.rf o), h.lines.frame ht (fun m hm hd => hM m hm (m4 m hd)), h.ge, ⟨by have := h.lt.1; omega, by have := h.lt.2.1; omega, fun g hg => by have := h.lt.2.2 g hg; omega⟩, h.ap, h.ap0⟩
theorem GK.all {w w' : World} {base : Nat} {p : PD} {k : KD} {kb : Nat} {a : GW} (h : GK w base p k kb a) (hb : Below w.heap.size w w') : GK w' base p k kb a := h.frame (M := []) (KTouch.of hb) (by simp)
theorem GK.lower {w : World} {base base' : Nat} {p : PD} {k : KD} {kb : Nat} {a : GW} (h : GK w base p k kb a) (hb : base' ≤ base) : GK w base' p k kb a :=
  ⟨h.c0, h.c1, h.c2, h.c3, h.c4, h.c5, h.f5, h.f2, h.src, h.rooms, h.rf, h.lines, fun g hg => Nat.le_trans hb (h.ge g hg), h.lt, h.ap, h.ap0⟩
/-- The time is written. -/
theorem GK.time {w : World} {base : Nat} {p : PD} {k : KD} {kb : Nat} {a : GW} (h : GK w base p k kb a) (t : Int) : GK (w.setCell ⟨kb, 5, none⟩ (.int .i64 t)) base p ⟨k.rooms, k.lines, t⟩ kb a := by
  have ht : KTouch [kb] w (w.setCell ⟨kb, 5, none⟩ (.int .i64 t)) := KTouch.set w (by simp) 5 _
  have b2 : (w.setCell ⟨kb, 5, none⟩ (.int .i64 t)).heap[a.rb]? = w.heap[a.rb]? := Below.heap_setCell _ _ _ _ (Ne.symm h.ap.1)
  refine ⟨by simpa [go_sem] using h.c0, by simpa [go_sem] using h.c1, by simpa [go_sem] using h.c2, by simpa [go_sem] using h.c3, by simpa [go_sem] using h.c4, by simp [go_sem, h.c5], by simpa using h.f5, by simpa using h.f2, h.src.kept (by simp) (fun b hb => Below.heap_setCell _ _ _ _ (fun e => h.ap0.1 (by rw [← show b = kb from e]; exact hb))), fun i s hs => (h.rooms i s hs).block b2, fun o => by simpa using h.rf o, h.lines.frame ht (fun m hm => ?_), h.ge, by simpa using h.lt, h.ap, h.ap0⟩
  rw [List.mem_singleton] at hm
  subst hm
  exact h.ap.2.1
/-- A room is another one: what is written lies within its eight cells. -/
theorem GK.room {w w' : World} {base : Nat} {p : PD} {k : KD} {kb : Nat} {a : GW} (h : GK w base p k kb a) {r : Nat} {s s' : St} (hr : k.rooms[r]? = some s) (ht : KTouch [a.rb] w w') (hat : StC w' a.rb (r * 8) s') (hoff : ∀ i, i < r * 8 ∨ r * 8 + 8 ≤ i → w'.cell? ⟨a.rb, i, none⟩ = w.cell? ⟨a.rb, i, none⟩) (hfz : ∀ i, w'.frozen? ⟨a.rb, i, none⟩ = w.frozen? ⟨a.rb, i, none⟩) : GK w' base p ⟨k.rooms.set r s', k.lines, k.time⟩ kb a := by
  have hlen := (List.getElem?_eq_some_iff.1 hr).1
  have b1 := ht.block kb h.lt.1 (by simpa using h.ap.1)
  have hc := fun o => World.cell?_of_block (w := w) (w' := w') (a := ⟨kb, o, none⟩) b1
  have hf := fun o => World.frozen?_of_block (w := w) (w' := w') (a := ⟨kb, o, none⟩) b1
  have hs := ht.size
  refine ⟨(hc 0).trans h.c0, (hc 1).trans h.c1, (hc 2).trans h.c2, by simp only [List.length_set]; exact (hc 3).trans h.c3, (hc 4).trans h.c4, (hc 5).trans h.c5, (hf 5).trans h.f5, (hf 2).trans h.f2, h.src.kept hs (fun b hb => ht.block b (h.lt.2.2 b hb) (fun hm => ?_)), fun j s2 hs => ?_, fun o => (hfz o).trans (h.rf o), h.lines.frame ht (fun m hm => ?_), h.ge, ⟨by have := h.lt.1; omega, by have := h.lt.2.1; omega, fun g hg => by have := h.lt.2.2 g hg; omega⟩, h.ap, h.ap0⟩
  · rw [List.mem_singleton] at hm
    subst hm
    exact h.ap0.2.1 hb
  · simp only at hs
    by_cases hij : r = j
    · subst hij
      rw [List.getElem?_set_self hlen] at hs
      obtain rfl := Option.some.inj hs
      exact hat
    · rw [List.getElem?_set_ne hij] at hs
      obtain ⟨q0, q1, q2, q3, q4, q5, q6, q7⟩ := h.rooms j s2 hs
      exact ⟨(hoff _ (by omega)).trans q0, (hoff _ (by omega)).trans q1, (hoff _ (by omega)).trans q2, (hoff _ (by omega)).trans q3, (hoff _ (by omega)).trans q4, (hoff _ (by omega)).trans q5, (hoff _ (by omega)).trans q6, (hoff _ (by omega)).trans q7⟩
  · rw [List.mem_singleton] at hm
    subst hm
    exact h.ap.2.2
theorem GK.set {w : World} {base : Nat} {p : PD} {k : KD} {kb : Nat} {a : GW} (h : GK w base p k kb a) {r : Nat} {s : St} (hr : k.rooms[r]? = some s) (s' : St) : GK (setSt w a.rb (r * 8) s') base p ⟨k.rooms.set r s', k.lines, k.time⟩ kb a :=
  h.room hr (setSt_touch w (by simp) _ _) (setSt_at (h.rooms r s hr)) (fun i hi => setSt_off hi) (fun i => setSt_frozen _ _ _ _ _)
theorem GK.poke {w : World} {base : Nat} {p : PD} {k : KD} {kb : Nat} {a : GW} (h : GK w base p k kb a) {r c : Nat} {s : St} (hr : k.rooms[r]? = some s) (hc : c ≤ 5) (n : Int) : GK (w.setCell ⟨a.rb, r * 8 + 1 + c, none⟩ (.int .i64 n)) base p ⟨k.rooms.set r (pokeS s c n), k.lines, k.time⟩ kb a :=
  h.room hr (KTouch.set w (by simp) _ _) ((h.rooms r s hr).poke hc n) (fun i hi => setCell_far (by omega)) (fun i => by simp)
/-- A line is another one. -/
theorem GK.line {w w' : World} {base : Nat} {p : PD} {k : KD} {kb : Nat} {a : GW} (h : GK w base p k kb a) (hbw : base ≤ w.heap.size) {i b : Nat} {u u' : Value} {l' : LnD} (hb : a.bs[i]? = some b) (hu : a.us[i]? = some u) (ht : Touch w w' b u u') (hl : Ln w' a.b1 b l'.w.2.2.1 l'.w.2.2.2 l'.xs l'.ls u') :
    GK w' base p ⟨k.rooms, k.lines.set i l', k.time⟩ kb { a with us := a.us.set i u' } ∧ KTouch (a.F kb) w w' ∧ ∀ g ∈ GW.F kb { a with us := a.us.set i u' }, g ∈ a.F kb ∨ w.heap.size ≤ g := by
  obtain ⟨h1, h2, h3⟩ := h.lines.set hb hu ht hl
  have hsub : ∀ m ∈ b :: (a.us.filterMap Value.ownBlock), m ∈ DF a.lr a.bs a.us := fun m hm => by
    unfold DF
    simp only [List.mem_cons, List.mem_append] at hm ⊢
    rcases hm with e | e
    · subst e
      exact Or.inr (Or.inl (List.mem_of_getElem? hb))
    · exact Or.inr (Or.inr e)
  have hk : kb ∉ b :: (a.us.filterMap Value.ownBlock) := fun hm => h.ap.2.1 (hsub _ hm)
  have hr : a.rb ∉ b :: (a.us.filterMap Value.ownBlock) := fun hm => h.ap.2.2 (hsub _ hm)
  have b1 := h2.block kb h.lt.1 hk
  have b2 := h2.block a.rb h.lt.2.1 hr
  have hc := fun o => World.cell?_of_block (w := w) (w' := w') (a := ⟨kb, o, none⟩) b1
  have hf := fun o => World.frozen?_of_block (w := w) (w' := w') (a := ⟨kb, o, none⟩) b1
  have hrf := fun o => World.frozen?_of_block (w := w) (w' := w') (a := ⟨a.rb, o, none⟩) b2
  have hs := h2.size
  have hnew : ∀ g ∈ GW.F kb { a with us := a.us.set i u' }, g ∈ a.F kb ∨ w.heap.size ≤ g := fun g hg => by
    unfold GW.F at hg ⊢
    simp only [List.mem_cons, List.mem_append] at hg ⊢
    rcases hg with e | e | e | e
    · exact Or.inl (Or.inl e)
    · exact Or.inl (Or.inr (Or.inl e))
    · exact Or.inl (Or.inr (Or.inr (Or.inl e)))
    · rcases h3 g e with e | e
      · exact Or.inl (Or.inr (Or.inr (Or.inr e)))
      · exact Or.inr e
  refine ⟨⟨(hc 0).trans h.c0, (hc 1).trans h.c1, (hc 2).trans h.c2, (hc 3).trans h.c3, (hc 4).trans h.c4, (hc 5).trans h.c5, (hf 5).trans h.f5, (hf 2).trans h.f2, h.src.kept hs (fun g hg => h2.block g (h.lt.2.2 g hg) (fun hm => h.ap0.2.2 g hg (hsub g hm))), fun j s hs => (h.rooms j s hs).block b2, fun o => (hrf o).trans (h.rf o), h1, fun g hg => ?_, ⟨by have := h.lt.1; omega, by have := h.lt.2.1; show a.rb < _; omega, fun g hg => by have := h.lt.2.2 g hg; omega⟩, ⟨h.ap.1, fun hm => ?_, fun hm => ?_⟩, ⟨h.ap0.1, h.ap0.2.1, fun g hg hm => ?_⟩⟩, h2.mono (fun m hm => by simp [GW.F, hsub m hm]), hnew⟩
  · rcases hnew g hg with e | e
    · exact h.ge g e
    · omega
  · rcases h3 kb hm with e | e
    · exact h.ap.2.1 e
    · have := h.lt.1
      omega
  · rcases h3 a.rb hm with e | e
    · exact h.ap.2.2 e
    · have := h.lt.2.1
      omega
  · rcases h3 g hm with e | e
    · exact h.ap0.2.2 g hg e
    · have := h.lt.2.2 g hg
      omega
end Go.Proofs.YtajfgmlockjmhafGreatDoor
namespace Go.Proofs.YtajfgmlockjmhafGreatDoor
open Go.RowKit

/-- Where it lies. -/
structure CW where
  kb : Nat
  a : GW
  qb : Nat
  qcap : Nat
/-- All its blocks. -/
def CW.F (cb : Nat) (x : CW) : List Nat := cb :: x.qb :: x.a.F x.kb
structure GC (w : World) (base : Nat) (p : PD) (what : List Int) (most : Int) (d : CD) (cb : Nat) (x : CW) : Prop where
  c0 : w.cell? ⟨cb, 0, none⟩ = some (.pointer (some ⟨x.kb, 0, none⟩))
  c1 : w.cell? ⟨cb, 1, none⟩ = some (.slice (some ⟨x.qb, 0, none⟩) d.ts.length x.qcap)
  c2 : w.cell? ⟨cb, 2, none⟩ = some (.int .i64 most)
  k : GK w base p d.k x.kb x.a
  row : ∀ (i : Nat) t, d.ts[i]? = some t → w.cell? ⟨x.qb, i * 3, none⟩ = some (.int .i64 (what.getD i 0)) ∧ w.cell? ⟨x.qb, i * 3 + 1, none⟩ = some (.int .i64 ((p.code.getD i []).length : Nat)) ∧ w.cell? ⟨x.qb, i * 3 + 2, none⟩ = some (.int .i64 t)
  qf : ∀ o, w.frozen? ⟨x.qb, o, none⟩ = false
  ge : base ≤ cb ∧ base ≤ x.qb
  lt : cb < w.heap.size ∧ x.qb < w.heap.size
  ap : cb ≠ x.qb ∧ cb ∉ x.a.F x.kb ∧ x.qb ∉ x.a.F x.kb
section
variable {w w' : World} {base : Nat} {p : PD} {what : List Int} {most : Int} {d : CD} {cb : Nat} {x : CW}
theorem GC.flt (h : GC w base p what most d cb x) : ∀ g ∈ x.F cb, g < w.heap.size := fun g hg => by
  unfold CW.F at hg
  rcases List.mem_cons.1 hg with h1 | h1
  · rw [h1]; exact h.lt.1
  · rcases List.mem_cons.1 h1 with h2 | h2
    · rw [h2]; exact h.lt.2
    · exact h.k.flt g h2
theorem GC.fge (h : GC w base p what most d cb x) : ∀ g ∈ x.F cb, base ≤ g := fun g hg => by
  unfold CW.F at hg
  rcases List.mem_cons.1 hg with h1 | h1
  · rw [h1]; exact h.ge.1
  · rcases List.mem_cons.1 h1 with h2 | h2
    · rw [h2]; exact h.ge.2
    · exact h.k.ge g h2
/-- Its own block and its row are as they were, its kernel is another one. -/
theorem GC.kern (h : GC w base p what most d cb x) {k' : KD} {a' : GW} (ht : KTouch (x.a.F x.kb) w w') (hk : GK w' base p k' x.kb a') (hn : ∀ g ∈ a'.F x.kb, g ∈ x.a.F x.kb ∨ w.heap.size ≤ g) : GC w' base p what most ⟨k', d.ts⟩ cb { x with a := a' } := by
  have b1 := ht.block cb h.lt.1 h.ap.2.1
  have b2 := ht.block x.qb h.lt.2 h.ap.2.2
  have hc := fun o => World.cell?_of_block (w := w) (w' := w') (a := ⟨cb, o, none⟩) b1
  have hq := fun o => World.cell?_of_block (w := w) (w' := w') (a := ⟨x.qb, o, none⟩) b2
  have hf := fun o => World.frozen?_of_block (w := w) (w' := w') (a := ⟨x.qb, o, none⟩) b2
  have hs := ht.size
  have h1 := h.lt.1
  have h2 := h.lt.2
  refine ⟨(hc 0).trans h.c0, (hc 1).trans h.c1, (hc 2).trans h.c2, hk, fun i t hi => ?_, fun o => (hf o).trans (h.qf o), h.ge, ⟨by omega, by show x.qb < _; omega⟩, ⟨h.ap.1, fun hm => ?_, fun hm => ?_⟩⟩
  · obtain ⟨r0, r1, r2⟩ := h.row i t hi
    exact ⟨(hq _).trans r0, (hq _).trans r1, (hq _).trans r2⟩
  · rcases hn cb hm with e | e
    · exact h.ap.2.1 e
    · omega
  · rcases hn x.qb hm with e | e
    · exact h.ap.2.2 e
    · omega
/-- What is written elsewhere leaves it as it is. -/
theorem GC.frame (h : GC w base p what most d cb x) {M : List Nat} (ht : KTouch M w w') (hM : ∀ m ∈ M, m ∉ x.F cb) : GC w' base p what most d cb x := by
  have m1 : cb ∈ x.F cb := by simp [CW.F]
  have m2 : x.qb ∈ x.F cb := by simp [CW.F]
  have m3 : ∀ g ∈ x.a.F x.kb, g ∈ x.F cb := fun g hg => by simp [CW.F, hg]
  have b1 := ht.block cb h.lt.1 (fun hm => hM _ hm m1)
  have b2 := ht.block x.qb h.lt.2 (fun hm => hM _ hm m2)
  have hc := fun o => World.cell?_of_block (w := w) (w' := w') (a := ⟨cb, o, none⟩) b1
  have hq := fun o => World.cell?_of_block (w := w) (w' := w') (a := ⟨x.qb, o, none⟩) b2
  have hf := fun o => World.frozen?_of_block (w := w) (w' := w') (a := ⟨x.qb, o, none⟩) b2
  have hs := ht.size
  have h1 := h.lt.1
  have h2 := h.lt.2
  refine ⟨(hc 0).trans h.c0, (hc 1).trans h.c1, (hc 2).trans h.c2, h.k.frame ht (fun m hm hd => hM m hm (m3 m hd)), fun i t hi => ?_, fun o => (hf o).trans (h.qf o), h.ge, ⟨by omega, by omega⟩, h.ap⟩
  obtain ⟨r0, r1, r2⟩ := h.row i t hi
  exact ⟨(hq _).trans r0, (hq _).trans r1, (hq _).trans r2⟩
theorem GC.all (h : GC w base p what most d cb x) (hb : Below w.heap.size w w') : GC w' base p what most d cb x := h.frame (M := []) (KTouch.of hb) (by simp)
theorem GC.lower {base' : Nat} (h : GC w base p what most d cb x) (hb : base' ≤ base) : GC w base' p what most d cb x :=
  ⟨h.c0, h.c1, h.c2, h.k.lower hb, h.row, h.qf, ⟨Nat.le_trans hb h.ge.1, Nat.le_trans hb h.ge.2⟩, h.lt, h.ap⟩
/-- A room was helped once more. -/
theorem GC.times (h : GC w base p what most d cb x) {r : Nat} {t : Int} (hr : d.ts[r]? = some t) (t' : Int) : GC (w.setCell ⟨x.qb, r * 3 + 2, none⟩ (.int .i64 t')) base p what most ⟨d.k, d.ts.set r t'⟩ cb x := by
  have hlen := (List.getElem?_eq_some_iff.1 hr).1
  have ht : KTouch [x.qb] w (w.setCell ⟨x.qb, r * 3 + 2, none⟩ (.int .i64 t')) := KTouch.set w (by simp) _ _
  have b1 := ht.block cb h.lt.1 (by simpa using h.ap.1)
  have hc := fun o => World.cell?_of_block (w := w) (w' := w.setCell ⟨x.qb, r * 3 + 2, none⟩ (.int .i64 t')) (a := ⟨cb, o, none⟩) b1
  refine ⟨(hc 0).trans h.c0, by simp only [List.length_set]; exact (hc 1).trans h.c1, (hc 2).trans h.c2, h.k.frame ht (fun m hm => ?_), fun i u hu => ?_, fun o => by simpa using h.qf o, h.ge, by simpa using h.lt, h.ap⟩
  · rw [List.mem_singleton] at hm
    subst hm
    exact h.ap.2.2
  · simp only at hu
    by_cases hir : r = i
    · subst hir
      rw [List.getElem?_set_self hlen] at hu
      obtain rfl := Option.some.inj hu
      obtain ⟨r0, r1, r2⟩ := h.row r t hr
      refine ⟨?_, ?_, ?_⟩
      · rw [setCell_far (by omega)]; exact r0
      · rw [setCell_far (by omega)]; exact r1
      · simp [go_sem, r2]
    · rw [List.getElem?_set_ne hir] at hu
      obtain ⟨r0, r1, r2⟩ := h.row i u hu
      refine ⟨?_, ?_, ?_⟩
      · rw [setCell_far (by omega)]; exact r0
      · rw [setCell_far (by omega)]; exact r1
      · rw [setCell_far (by omega)]; exact r2
end
end Go.Proofs.YtajfgmlockjmhafGreatDoor
namespace Go.Proofs.YtajfgmlockjmhafGreatDoor
open Go.RowKit

/-- The kernel's block. -/
def GB (W : World) (b : Nat) (cv : Value) (t : Int) (sv rv lv : Value) : Prop := W.heap[b]? = some (.cells #[cv, .int .i64 t, sv, rv, lv, .int .i64 0] 95 (0, 0))
theorem GB.cs {W : World} {b : Nat} {cv sv rv lv : Value} {t : Int} (h : GB W b cv t sv rv lv) : W.cell? ⟨b, 0, none⟩ = some cv ∧ W.cell? ⟨b, 1, none⟩ = some (.int .i64 t) ∧ W.cell? ⟨b, 2, none⟩ = some sv ∧ W.cell? ⟨b, 3, none⟩ = some rv ∧ W.cell? ⟨b, 4, none⟩ = some lv ∧ W.cell? ⟨b, 5, none⟩ = some (.int .i64 0) := by
  have e : W.heap[b]? = _ := h
  simp [World.cell?, e]
theorem GB.free {W : World} {b : Nat} {cv sv rv lv : Value} {t : Int} (h : GB W b cv t sv rv lv) (o : Nat) : W.frozen? ⟨b, o, none⟩ = false := by
  have e : W.heap[b]? = _ := h
  simp [World.frozen?, e]
theorem GB.code {W : World} {b : Nat} {cv sv rv lv : Value} {t : Int} (h : GB W b cv t sv rv lv) (v : Value) : GB (W.setCell ⟨b, 0, none⟩ v) b v t sv rv lv := by
  have e : W.heap[b]? = _ := h
  unfold GB
  simp [World.setCell, Array.getElem?_modify, e]
theorem GB.rooms {W : World} {b : Nat} {cv sv rv lv : Value} {t : Int} (h : GB W b cv t sv rv lv) (v : Value) : GB (W.setCell ⟨b, 3, none⟩ v) b cv t sv v lv := by
  have e : W.heap[b]? = _ := h
  unfold GB
  simp [World.setCell, Array.getElem?_modify, e]
theorem GB.lines {W : World} {b : Nat} {cv sv rv lv : Value} {t : Int} (h : GB W b cv t sv rv lv) (v : Value) : GB (W.setCell ⟨b, 4, none⟩ v) b cv t sv rv v := by
  have e : W.heap[b]? = _ := h
  unfold GB
  simp [World.setCell, Array.getElem?_modify, e]
/-- A row has grown: what was there ahead, but one block, is as it was. -/
theorem KTouch.grow {M : List Nat} {W0 W w2 wa : World} {row : Option Nat} (h : KTouch M W0 W) (hb : Below W.heap.size W w2) (hg : w2.grownBy wa row) (hr : ∀ k, row = some k → W0.heap.size ≤ k) : KTouch M W0 wa :=
  ⟨hg.os.trans (hb.os.trans h.os), hg.tape.trans (hb.tape.trans h.tape), hg.output.trans (hb.output.trans h.output), Nat.le_trans h.size (Nat.le_trans hb.size hg.size), fun k hk hm => by
    have h1 := h.size
    have h2 := hb.size
    exact (hg.block k (by omega) (fun e => by have := hr k e.symm; omega)).trans ((hb.block k (by omega)).trans (h.block k hk hm))⟩
/-- Rooms are being made: code and states so far. -/
structure N1 (W0 W : World) (kb : Nat) (p : PD) (sv cv rv : Value) (us : List Value) (m : Nat) : Prop where
  tk : KTouch [kb] W0 W
  kl : kb < W0.heap.size
  blk : GB W kb cv p.ticks sv rv (.slice none 0 0)
  code : W.ownsRow W0.heap.size 65 1 cv us.length us
  rows : ∀ (i : Nat) u c, us[i]? = some u → p.code[i]? = some c → W.ownsRow W0.heap.size 89 3 u c.length (spCells c)
  rooms : W.ownsRow W0.heap.size 47 8 rv m (stCells (List.replicate m stNew))
  len : us.length ≤ p.code.length
theorem N1.first {W0 : World} {kb : Nat} {p : PD} {sv : Value} (hk : kb < W0.heap.size) (h : GB W0 kb (.slice none 0 0) p.ticks sv (.slice none 0 0) (.slice none 0 0)) : N1 W0 W0 kb p sv (.slice none 0 0) (.slice none 0 0) [] 0 :=
  ⟨KTouch.refl _ _, hk, h, World.ownsRow_nil _ _ _ _, fun i u c hi => (by simp at hi), World.ownsRow_nil _ _ _ _, Nat.zero_le _⟩
/-- One code more. -/
theorem N1.more {W0 W w1 wa : World} {kb m : Nat} {p : PD} {sv cv cv' rv u : Value} {us : List Value} {c : List O3} (h : N1 W0 W kb p sv cv rv us m) (hc : p.code[us.length]? = some c) (b1 : Below W.heap.size W w1) (hu : w1.ownsRow W.heap.size 89 3 u c.length (spCells c))
    (hg : (w1.alloc (.cells #[u] 65)).grownBy wa cv.ownBlock) (hown : wa.ownsRow W0.heap.size 65 1 cv' (us.length + 1) (us ++ [u])) : N1 W0 (wa.setCell ⟨kb, 0, none⟩ cv') kb p sv cv' rv (us ++ [u]) m := by
  have b2 : Below W.heap.size W (w1.alloc (.cells #[u] 65)) := b1.alloc b1.size _
  have hs := h.tk.size
  have hcr : ∀ k, cv.ownBlock = some k → W0.heap.size ≤ k := fun k hk => (h.code.lt k hk).1
  have code2 := own_below h.code b2 (Nat.le_refl _)
  have hset : ∀ {e : TypeId} {size : Nat} {v : Value} {n : Nat} {xs : List Value}, wa.ownsRow W0.heap.size e size v n xs → (wa.setCell ⟨kb, 0, none⟩ cv').ownsRow W0.heap.size e size v n xs := fun hx => ownsRow_setCell_below hx (a := ⟨kb, 0, none⟩) h.kl cv'
  refine ⟨(h.tk.grow b2 hg hcr).trans (KTouch.set _ (by simp) 0 _), h.kl, GB.code (cv := cv) ?_ cv', ?_, fun i x d hx hd => ?_, ?_, ?_⟩
  · have hlt : kb < W.heap.size := Nat.lt_of_lt_of_le h.kl hs
    have h1 := b2.size
    exact (hg.block kb (by omega) (fun e => by have := hcr kb e.symm; have := h.kl; omega)).trans ((b2.block kb hlt).trans h.blk)
  · rw [List.length_append]
    exact hset hown
  · by_cases hi : i < us.length
    · rw [List.getElem?_append_left hi] at hx
      have r2 := own_below (h.rows i x d hx hd) b2 (Nat.le_refl _)
      exact hset (r2.kept hg (own_apart (by decide) r2 code2))
    · have hlt := (List.getElem?_eq_some_iff.1 hx).1
      rw [List.length_append, List.length_singleton] at hlt
      obtain rfl : i = us.length := by omega
      rw [List.getElem?_append_right (Nat.le_refl _), Nat.sub_self] at hx
      simp only [List.getElem?_cons_zero, Option.some.injEq] at hx
      subst hx
      rw [hc] at hd
      obtain rfl := Option.some.inj hd
      have r2 := own_base (own_below hu ((Below.refl _ w1).alloc (Nat.le_refl _) (.cells #[u] 65)) (Nat.le_refl _)) hs
      exact hset (r2.kept hg (own_apart (by decide) r2 code2))
  · have r2 := own_below h.rooms b2 (Nat.le_refl _)
    exact hset (r2.kept hg (own_apart (by decide) r2 code2))
  · rw [List.length_append, List.length_singleton]
    exact (List.getElem?_eq_some_iff.1 hc).1
/-- One state more. -/
theorem N1.room {W0 W w1 wa : World} {kb m : Nat} {p : PD} {sv cv rv rv' : Value} {us : List Value} (h : N1 W0 W kb p sv cv rv us m) (b1 : Below W.heap.size W w1)
    (hg : (w1.alloc (.cells #[.int .i64 0, .int .i64 0, .int .i64 0, .int .i64 0, .int .i64 0, .int .i64 0, .int .i64 0, .bool false] 47)).grownBy wa rv.ownBlock) (hown : wa.ownsRow W0.heap.size 47 8 rv' (m + 1) (stCells (List.replicate m stNew) ++ [.int .i64 0, .int .i64 0, .int .i64 0, .int .i64 0, .int .i64 0, .int .i64 0, .int .i64 0, .bool false])) : N1 W0 (wa.setCell ⟨kb, 3, none⟩ rv') kb p sv cv rv' us (m + 1) := by
  have b2 : Below W.heap.size W (w1.alloc (.cells #[.int .i64 0, .int .i64 0, .int .i64 0, .int .i64 0, .int .i64 0, .int .i64 0, .int .i64 0, .bool false] 47)) := b1.alloc b1.size _
  have hs := h.tk.size
  have hcr : ∀ k, rv.ownBlock = some k → W0.heap.size ≤ k := fun k hk => (h.rooms.lt k hk).1
  have room2 := own_below h.rooms b2 (Nat.le_refl _)
  have hset : ∀ {e : TypeId} {size : Nat} {v : Value} {n : Nat} {xs : List Value}, wa.ownsRow W0.heap.size e size v n xs → (wa.setCell ⟨kb, 3, none⟩ rv').ownsRow W0.heap.size e size v n xs := fun hx => ownsRow_setCell_below hx (a := ⟨kb, 3, none⟩) h.kl rv'
  refine ⟨(h.tk.grow b2 hg hcr).trans (KTouch.set _ (by simp) 3 _), h.kl, GB.rooms (rv := rv) ?_ rv', ?_, fun i x d hx hd => ?_, ?_, h.len⟩
  · have hlt : kb < W.heap.size := Nat.lt_of_lt_of_le h.kl hs
    have h1 := b2.size
    exact (hg.block kb (by omega) (fun e => by have := hcr kb e.symm; have := h.kl; omega)).trans ((b2.block kb hlt).trans h.blk)
  · have r2 := own_below h.code b2 (Nat.le_refl _)
    exact hset (r2.kept hg (own_apart (by decide) r2 room2))
  · have r2 := own_below (h.rows i x d hx hd) b2 (Nat.le_refl _)
    exact hset (r2.kept hg (own_apart (by decide) r2 room2))
  · rw [List.replicate_succ', stCells_snoc]
    exact hset hown
/-- A pointer to a line. -/
def glP (b : Nat) : Value := .pointer (some ⟨b, 0, none⟩)
theorem infoGL : (Tryz.prog.info? 98).map (fun i => (i.zero, i.size, i.bytes)) = some (some (.pointer none), 1, 8) := by kernel_rfl
/-- Lines are being made. -/
structure N2 (W1 W : World) (kb : Nat) (p : PD) (cv sv rv lv : Value) (bs : List Nat) : Prop where
  tk : KTouch [kb] W1 W
  kl : kb < W1.heap.size
  blk : GB W kb cv p.ticks sv rv lv
  row : W.ownsRow W1.heap.size 98 1 lv bs.length (bs.map glP)
  line : ∀ (i : Nat) b x, bs[i]? = some b → p.wires[i]? = some x → LnC W b x.2.2.1 x.2.2.2 0 (.slice none 0 0)
  ge : ∀ b ∈ bs, W1.heap.size ≤ b ∧ b < W.heap.size
  ne : ∀ b ∈ bs, lv.ownBlock ≠ some b
  two : ∀ (i j : Nat) b b', i < j → bs[i]? = some b → bs[j]? = some b' → b < b'
  len : bs.length ≤ p.wires.length
theorem N2.first {W1 : World} {kb : Nat} {p : PD} {cv sv rv : Value} (hk : kb < W1.heap.size) (h : GB W1 kb cv p.ticks sv rv (.slice none 0 0)) : N2 W1 W1 kb p cv sv rv (.slice none 0 0) [] :=
  ⟨KTouch.refl _ _, hk, h, World.ownsRow_nil _ _ _ _, fun i b x hi => (by simp at hi), fun b hb => (by cases hb), fun b hb => (by cases hb), fun i j b b' _ hi => (by simp at hi), Nat.zero_le _⟩
/-- One line more. -/
theorem N2.more {W1 W w1 wa : World} {kb b : Nat} {p : PD} {cv sv rv lv lv' : Value} {bs : List Nat} {x : W4} (h : N2 W1 W kb p cv sv rv lv bs) (hx : p.wires[bs.length]? = some x) (b1 : Below W.heap.size W w1) (hb : W.heap.size ≤ b ∧ b < w1.heap.size) (hl : LnC w1 b x.2.2.1 x.2.2.2 0 (.slice none 0 0))
    (hg : (w1.alloc (.cells #[glP b] 98)).grownBy wa lv.ownBlock) (hown : wa.ownsRow W1.heap.size 98 1 lv' (bs.length + 1) (bs.map glP ++ [glP b])) (hnew : ∀ k, lv'.ownBlock = some k → lv.ownBlock = some k ∨ w1.heap.size + 1 ≤ k) : N2 W1 (wa.setCell ⟨kb, 4, none⟩ lv') kb p cv sv rv lv' (bs ++ [b]) := by
  have b2 : Below W.heap.size W (w1.alloc (.cells #[glP b] 98)) := b1.alloc b1.size _
  have hs := h.tk.size
  have hcr : ∀ k, lv.ownBlock = some k → W1.heap.size ≤ k ∧ k < W.heap.size := fun k hk => h.row.lt k hk
  have hsz : (w1.alloc (.cells #[glP b] 98)).heap.size = w1.heap.size + 1 := by simp
  have hwa := hg.size
  rw [hsz] at hwa
  have h1s := b1.size
  have hset : ∀ k, k ≠ kb → (wa.setCell ⟨kb, 4, none⟩ lv').heap[k]? = wa.heap[k]? := fun k hk => Below.heap_setCell _ _ _ _ hk
  have hsz2 : (wa.setCell ⟨kb, 4, none⟩ lv').heap.size = wa.heap.size := by simp
  have hkb := h.kl
  have hold : ∀ k, k < W.heap.size → k ≠ kb → lv.ownBlock ≠ some k → (wa.setCell ⟨kb, 4, none⟩ lv').heap[k]? = W.heap[k]? := fun k h2 h3 h4 => (hset k h3).trans ((hg.block k (by rw [hsz]; omega) (fun e => h4 e.symm)).trans (b2.block k h2))
  refine ⟨(h.tk.grow b2 hg (fun k hk => (hcr k hk).1)).trans (KTouch.set _ (by simp) 4 _), h.kl, GB.lines (lv := lv) ?_ lv', ?_, fun i c y hi hy => ?_, fun c hc => ?_, fun c hc => ?_, fun i j c c' hij hi hj => ?_, ?_⟩
  · have hlt : kb < W.heap.size := Nat.lt_of_lt_of_le h.kl hs
    exact (hg.block kb (by rw [hsz]; omega) (fun e => by have := (hcr kb e.symm).1; omega)).trans ((b2.block kb hlt).trans h.blk)
  · rw [List.map_append, List.length_append]
    exact ownsRow_setCell_below hown (a := ⟨kb, 4, none⟩) h.kl lv'
  · by_cases hil : i < bs.length
    · rw [List.getElem?_append_left hil] at hi
      have hm := List.mem_of_getElem? hi
      have hge := h.ge c hm
      exact (h.line i c y hi hy).block (hold c hge.2 (by omega) (h.ne c hm))
    · have hlt := (List.getElem?_eq_some_iff.1 hi).1
      rw [List.length_append, List.length_singleton] at hlt
      obtain rfl : i = bs.length := by omega
      rw [List.getElem?_append_right (Nat.le_refl _), Nat.sub_self] at hi
      simp only [List.getElem?_cons_zero, Option.some.injEq] at hi
      subst hi
      rw [hx] at hy
      obtain rfl := Option.some.inj hy
      refine hl.block ((hset b (by omega)).trans ((hg.block b (by rw [hsz]; omega) (fun e => by have := (hcr b e.symm).2; omega)).trans ?_))
      exact Below.heap_alloc _ _ _ hb.2
  · rcases List.mem_append.1 hc with hc | hc
    · have := h.ge c hc
      rw [hsz2]
      omega
    · rw [List.mem_singleton] at hc
      subst hc
      rw [hsz2]
      omega
  · intro e
    rcases List.mem_append.1 hc with hc | hc
    · have hge := h.ge c hc
      rcases hnew c e with h2 | h2
      · exact h.ne c hc h2
      · omega
    · rw [List.mem_singleton] at hc
      subst hc
      rcases hnew c e with h2 | h2
      · have := (hcr c h2).2
        omega
      · omega
  · by_cases hjl : j < bs.length
    · rw [List.getElem?_append_left hjl] at hj
      rw [List.getElem?_append_left (by omega)] at hi
      exact h.two i j c c' hij hi hj
    · have hlt := (List.getElem?_eq_some_iff.1 hj).1
      rw [List.length_append, List.length_singleton] at hlt
      obtain rfl : j = bs.length := by omega
      rw [List.getElem?_append_right (Nat.le_refl _), Nat.sub_self] at hj
      simp only [List.getElem?_cons_zero, Option.some.injEq] at hj
      subst hj
      rw [List.getElem?_append_left (by omega)] at hi
      have := h.ge c (List.mem_of_getElem? hi)
      omega
  · rw [List.length_append, List.length_singleton]
    exact (List.getElem?_eq_some_iff.1 hx).1
/-- Code in rows of its own can be read. -/
theorem gcds_own {w : World} {base : Nat} {cv : Value} {us : List Value} {cs : List (List O3)} (h : w.ownsRow base 65 1 cv us.length us) (hl : us.length = cs.length) (hr : ∀ (i : Nat) u c, us[i]? = some u → cs[i]? = some c → Ops w u c) : Cds w cv cs := by
  have hlt := h.lt
  have hcs := @World.ownsRow.cells _ _ _ _ _ _ _ h
  rcases h.2 with ⟨rfl, h0⟩ | ⟨g, cap, cur, rfl, _, _, hcap, _⟩
  · exact Or.inl ⟨List.eq_nil_of_length_eq_zero (by omega), _, _, rfl⟩
  · refine Or.inr ⟨g, 0, cap, by rw [hl], by omega, (hlt g rfl).2, fun i c hi => ?_⟩
    have hil : i < us.length := by rw [hl]; exact (List.getElem?_eq_some_iff.1 hi).1
    have hu : us[i]? = some us[i] := List.getElem?_eq_getElem hil
    have := hcs rfl i _ hu
    rw [Addr.add_lit] at this
    exact ⟨_, this, hr i _ c hu hi⟩
theorem ofOwn {v : Value} {g : Nat} (h : g ∈ v.ownBlock.toList) : v.ownBlock = some g := by simpa using h
/-- All is there: a kernel. -/
theorem N2.done {w W0 W1 W : World} {kb : Nat} {p : PD} {cv sv rv lv : Value} {us : List Value} {bs : List Nat} (hw0 : w.heap.size + 1 ≤ kb) (hsp : W0.ownsRow (w.heap.size + 1) 61 3 sv p.spans.length (spCells p.spans)) (hspk : ∀ g, sv.ownBlock = some g → g ≠ kb)
    (h1 : N1 W0 W1 kb p sv cv rv us us.length) (h2 : N2 W1 W kb p cv sv rv lv bs) (hp : plchk p = 0) (hul : us.length = p.code.length) (hbl : bs.length = p.wires.length) : ∃ a : GW, GK W w.heap.size p (newK p) kb a := by
  obtain ⟨c0, c1, c2, c3, c4, c5⟩ := h2.blk.cs
  have hne0 := (plchk_zero hp).2.1
  have hk0 := h1.kl
  have hs1 := h1.tk.size
  have hs2 := h2.tk.size
  obtain ⟨rb, rcap, cur, rfl, hrb0, hrb1, hrb2, hrb3, hrb4, hrb5⟩ : ∃ g cap cur, rv = .slice (some ⟨g, 0, none⟩) us.length cap ∧ W0.heap.size ≤ g ∧ W1.heap[g]? = some (.cells cur 47 (0, 0)) ∧ us.length ≤ cap ∧ cap ≤ maxLen ∧ cur.size = cap * 8 ∧ cur.toList.take (us.length * 8) = stCells (List.replicate us.length stNew) := by
    rcases h1.rooms.2 with ⟨_, h0⟩ | hq
    · omega
    · exact hq
  have hrlt := (h1.rooms.lt rb rfl).2
  have hkeep : ∀ k, k < W1.heap.size → k ≠ kb → W.heap[k]? = W1.heap[k]? := fun k h3 h4 => h2.tk.block k h3 (by simpa using h4)
  have hsp1 : W1.ownsRow (w.heap.size + 1) 61 3 sv p.spans.length (spCells p.spans) := own_block hsp (fun k hk => h1.tk.block k (hsp.lt k hk).2 (by simpa using hspk k hk))
  have hspW : W.ownsRow (w.heap.size + 1) 61 3 sv p.spans.length (spCells p.spans) := own_block hsp1 (fun k hk => hkeep k (hsp1.lt k hk).2 (hspk k hk))
  have hcW : W.ownsRow W0.heap.size 65 1 cv us.length us := own_block h1.code (fun k hk => hkeep k (h1.code.lt k hk).2 (by have := (h1.code.lt k hk).1; omega))
  have hrW : ∀ (i : Nat) u c, us[i]? = some u → p.code[i]? = some c → W.ownsRow W0.heap.size 89 3 u c.length (spCells c) := fun i u c hu hc => own_block (h1.rows i u c hu hc) (fun k hk => hkeep k ((h1.rows i u c hu hc).lt k hk).2 (by have := ((h1.rows i u c hu hc).lt k hk).1; omega))
  have hsW : W.ownsRow W0.heap.size 47 8 (.slice (some ⟨rb, 0, none⟩) us.length rcap) us.length (stCells (List.replicate us.length stNew)) := own_block h1.rooms (fun k hk => hkeep k (h1.rooms.lt k hk).2 (by have := (h1.rooms.lt k hk).1; omega))
  have hat : ∀ (i : Nat) u, us[i]? = some u → ∃ c, p.code[i]? = some c := fun i u hu => ⟨_, List.getElem?_eq_getElem (by rw [← hul]; exact (List.getElem?_eq_some_iff.1 hu).1)⟩
  have hF0 : ∀ g ∈ sv.ownBlock.toList ++ (cv.ownBlock.toList ++ us.filterMap Value.ownBlock), w.heap.size + 1 ≤ g ∧ g < W1.heap.size ∧ g ≠ kb ∧ g ≠ rb := fun g hg => by
    rcases List.mem_append.1 hg with hg | hg
    · have e := ofOwn hg
      have hl := hsp.lt g e
      have hl1 := hsp1.lt g e
      exact ⟨hl.1, hl1.2, hspk g e, fun e2 => by have := hl.2; omega⟩
    · rcases List.mem_append.1 hg with hg | hg
      · have e := ofOwn hg
        have hl := h1.code.lt g e
        refine ⟨by omega, hl.2, by omega, fun e2 => ?_⟩
        rcases own_apart (by decide) h1.code h1.rooms with h3 | h3
        · rw [h3] at e; cases e
        · exact h3 (by rw [e, e2]; rfl)
      · obtain ⟨u, hu, e⟩ := List.mem_filterMap.1 hg
        obtain ⟨i, hi⟩ := List.mem_iff_getElem?.1 hu
        obtain ⟨c, hc⟩ := hat i u hi
        have hr := h1.rows i u c hi hc
        have hl := hr.lt g e
        refine ⟨by omega, hl.2, by omega, fun e2 => ?_⟩
        rcases own_apart (by decide) hr h1.rooms with h3 | h3
        · rw [h3] at e; cases e
        · exact h3 (by rw [e, e2]; rfl)
  have hlv : (p.wires = [] ∧ lv = .slice none 0 0) ∨ ∃ g cap, lv = .slice (some ⟨g, 0, none⟩) p.wires.length cap ∧ p.wires.length ≤ cap ∧ W1.heap.size ≤ g ∧ g < W.heap.size ∧ (∀ (i : Nat) b, bs[i]? = some b → W.cell? ⟨g, i, none⟩ = some (glP b)) := by
    rcases h2.row.2 with ⟨h3, h4⟩ | ⟨g, cap, cur, h3, h4, h5, h6, h7, h8, h9⟩
    · exact Or.inl ⟨List.length_eq_zero_iff.1 (by omega), h3⟩
    · refine Or.inr ⟨g, cap, by rw [h3, hbl], by omega, h4, (Array.getElem?_eq_some_iff.1 h5).1, fun i b hi => ?_⟩
      have := h2.row
      rw [h3] at this
      exact (own_cap this).2.2.2.2.1 i _ (by simp [hi])
  obtain ⟨lr, hl1, hl2, hl3, hl4, hl5⟩ : ∃ lr, ((p.wires = [] ∧ lv = .slice none 0 0) ∨ ∃ cap, lv = .slice (some ⟨lr, 0, none⟩) p.wires.length cap ∧ p.wires.length ≤ cap) ∧ (∀ (i : Nat) b, bs[i]? = some b → W.cell? ⟨lr, i, none⟩ = some (glP b)) ∧ lr < W.heap.size ∧ (∀ b ∈ bs, b ≠ lr) ∧ (lr = w.heap.size ∨ W1.heap.size ≤ lr) := by
    rcases hlv with ⟨h3, h4⟩ | ⟨g, cap, h3, h4, h5, h6, h7⟩
    · have hb0 : bs = [] := List.length_eq_zero_iff.1 (by rw [hbl, h3]; rfl)
      subst hb0
      exact ⟨w.heap.size, Or.inl ⟨h3, h4⟩, fun i b hi => (by simp at hi), (by omega), fun b hb => (by cases hb), Or.inl rfl⟩
    · exact ⟨g, Or.inr ⟨cap, h3, h4⟩, h7, h6, fun b hb e => h2.ne b hb (by rw [h3, e]; rfl), Or.inr h5⟩
  have hdf : ∀ g ∈ DF lr bs (bs.map fun _ => Value.slice none 0 0), g = w.heap.size ∨ W1.heap.size ≤ g := fun g hg => by
    unfold DF at hg
    rcases List.mem_cons.1 hg with e | e
    · rw [e]; exact hl5
    · rcases List.mem_append.1 e with e | e
      · exact Or.inr (h2.ge g e).1
      · obtain ⟨u, hu, e2⟩ := List.mem_filterMap.1 e
        obtain ⟨_, _, rfl⟩ := List.mem_map.1 hu
        simp [Value.ownBlock] at e2
  have hdg : ∀ g ∈ DF lr bs (bs.map fun _ => Value.slice none 0 0), w.heap.size ≤ g := fun g hg => by
    rcases hdf g hg with e | e <;> omega
  refine ⟨⟨cv, sv, sv.ownBlock.toList ++ (cv.ownBlock.toList ++ us.filterMap Value.ownBlock), rb, rcap, lv, lr, W.heap.size, bs, bs.map fun _ => .slice none 0 0⟩, c0, c1, c2, ?_, c4, c5, h2.blk.free 5, h2.blk.free 2, fun w' hs hb => ⟨?_, ?_⟩, fun i s hs => ?_, fun o => ?_, ⟨?_, fun i b hi => hl2 i b hi, by simpa [newK] using hbl, by simpa [newK] using hbl, fun i l b u h3 h4 h5 => ?_, ⟨hl3, fun b hb => (h2.ge b hb).2⟩, Nat.le_refl _, hl4, fun i j b b' hij hi hj => Nat.ne_of_lt (h2.two i j b b' hij hi hj), fun i j u u' _ hi _ g hg => ?_⟩, fun g hg => ?_, ⟨?_, ?_, fun g hg => ?_⟩, ⟨?_, fun hm => ?_, fun hm => ?_⟩, ⟨fun hm => (hF0 kb hm).2.2.1 rfl, fun hm => (hF0 rb hm).2.2.2 rfl, fun g hg hm => ?_⟩⟩
  · simp only [newK, List.length_map]
    rw [← hul]
    exact c3
  · exact gcds_own (own_block hcW (fun k hk => hb k (by simp [hk]))) hul (fun i u c hu hc => gops_own (own_block (hrW i u c hu hc) (fun k hk => hb k (List.mem_append_right _ (List.mem_append_right _ (List.mem_filterMap.2 ⟨u, List.mem_of_getElem? hu, hk⟩))))))
  · exact sps_of_own (own_block hspW (fun k hk => hb k (by simp [hk])))
  · have hlt := (List.getElem?_eq_some_iff.1 hs).1
    simp only [newK, List.length_map] at hlt
    simp only [newK, List.getElem?_map, List.getElem?_eq_getElem hlt, Option.map_some, Option.some.injEq] at hs
    subst hs
    have hcs : ∀ j u, (stCells (List.replicate us.length stNew))[j]? = some u → W.cell? ⟨rb, j, none⟩ = some u := fun j u hu => by
      have := hsW.cells (g := rb) rfl j u hu
      rwa [Addr.add_lit, Nat.zero_add] at this
    obtain ⟨q0, q1, q2, q3, q4, q5, q6, q7⟩ := stCells_at (List.replicate us.length stNew) i stNew (by rw [List.getElem?_replicate, if_pos (by omega)])
    exact ⟨hcs _ _ q0, hcs _ _ q1, hcs _ _ q2, hcs _ _ q3, hcs _ _ q4, hcs _ _ q5, hcs _ _ q6, hcs _ _ q7⟩
  · have e : W.heap[rb]? = _ := (hkeep rb hrlt (by omega)).trans hrb1
    simp [World.frozen?, e]
  · rcases hl1 with ⟨h3, h4⟩ | ⟨cap, h3, h4⟩
    · exact Or.inl ⟨by simp [newK, h3], h4⟩
    · exact Or.inr ⟨cap, by simpa [newK] using h3, by simpa [newK] using h4⟩
  · simp only [newK, List.getElem?_map, Option.map_eq_some_iff] at h3
    obtain ⟨x, hx, rfl⟩ := h3
    simp only [List.getElem?_map, Option.map_eq_some_iff] at h5
    obtain ⟨_, _, rfl⟩ := h5
    exact ⟨h2.line i b x h4 hx, World.ownsRow_nil _ _ _ _, (h2.ge b (List.mem_of_getElem? h4)).2, Nat.le_refl _⟩
  · simp only [List.getElem?_map, Option.map_eq_some_iff] at hi
    obtain ⟨_, _, rfl⟩ := hi
    simp [Value.ownBlock] at hg
  · unfold GW.F at hg
    simp only [List.mem_cons] at hg
    rcases hg with e | e | e
    · omega
    · omega
    · rcases List.mem_append.1 e with e | e
      · have := (hF0 g e).1
        omega
      · exact hdg g e
  · omega
  · show rb < W.heap.size
    omega
  · have := (hF0 g hg).2.1
    omega
  · show kb ≠ rb
    omega
  · rcases hdf kb hm with e | e <;> omega
  · rcases hdf rb hm with e | e <;> omega
  · have h3 := hF0 g hg
    rcases hdf g hm with e | e <;> omega
end Go.Proofs.YtajfgmlockjmhafGreatDoor
namespace Go.Proofs.YtajfgmlockjmhafGreatDoor
open Go.RowKit

def woutB (n : Int) : Bool := decide (n < 0) || decide (999 < n)
set_option maxRecDepth 100000 in
set_option maxHeartbeats 1000000 in
theorem wout_yes (n : Int) (w : World) (h : n < 0 ∨ 1000 ≤ n) : Calls Tryz.prog 93 #[.int .i64 n] w fun e w' => e = .returned (.bool true) ∧ w' = w := by
  by_cases h0 : n < 0
  · clear h
    go_enter Tryz.func93, Tryz.ntmps93
    go_wp2
    go_ret
    exact ⟨rfl, rfl⟩
  · have h0' : decide (n < 0) = false := by simpa using h0
    have h1 : 1000 ≤ n := by omega
    clear h
    go_enter Tryz.func93, Tryz.ntmps93
    go_wp2
    go_ret
    exact ⟨rfl, rfl⟩
set_option maxRecDepth 100000 in
set_option maxHeartbeats 1000000 in
theorem wout_no (n : Int) (w : World) (h0 : 0 ≤ n) (h1 : n < 1000) : Calls Tryz.prog 93 #[.int .i64 n] w fun e w' => e = .returned (.bool false) ∧ w' = w := by
  have h0' : decide (n < 0) = false := by simpa using h0
  have h1' : decide (1000 ≤ n) = false := by simpa using h1
  go_enter Tryz.func93, Tryz.ntmps93
  go_wp2
  go_ret
  exact ⟨rfl, rfl⟩
theorem wout_any (n : Int) (w : World) : Calls Tryz.prog 93 #[.int .i64 n] w fun e w' => e = .returned (.bool (woutB n)) ∧ w' = w := by
  by_cases h : n < 0 ∨ 1000 ≤ n
  · have e : woutB n = true := by unfold woutB; rw [Bool.or_eq_true]; rcases h with h | h; exact Or.inl (decide_eq_true h); exact Or.inr (decide_eq_true (by omega))
    rw [e]; exact wout_yes n w h
  · have e : woutB n = false := by unfold woutB; rw [Bool.or_eq_false_iff]; exact ⟨decide_eq_false (by omega), decide_eq_false (by omega)⟩
    rw [e]; exact wout_no n w (by omega) (by omega)
end Go.Proofs.YtajfgmlockjmhafGreatDoor
namespace Go.Proofs.YtajfgmlockjmhafGreatDoor
open Go.RowKit

set_option maxRecDepth 100000 in
set_option maxHeartbeats 2000000 in
theorem wnew_no (f t k d : Int) (w : World) (h : wchk f t k d ≠ 0) : Calls Tryz.prog 35 #[wV f t k d] w fun e w' => e = .returned (.tuple #[.pointer none, .iface 70 (.int .i64 (wchk f t k d))]) ∧ Below w.heap.size w w' := by
  have hA : Below w.heap.size w (w.alloc (.cells #[.int .i64 f, .int .i64 t, .int .i64 k, .int .i64 d] 63)) := (Below.refl _ _).alloc (Nat.le_refl _) _
  have hc := wcheck_any f t k d (w.alloc (.cells #[.int .i64 f, .int .i64 t, .int .i64 k, .int .i64 d] 63))
  rw [wErr_not h] at hc
  clear h
  generalize wchk f t k d = q at hc ⊢
  unfold wV at hc ⊢
  go_enter Tryz.func35, Tryz.ntmps35
  go_wp2_with (go_at_call 48; refine hc.mono ?_; rintro e w1 ⟨rfl, b1⟩; clear hc)
  go_ret2
  exact ⟨rfl, hA.trans (b1.mono hA.size)⟩
set_option maxRecDepth 100000 in
set_option maxHeartbeats 2000000 in
theorem wnew_ok (f t k d : Int) (w : World) (h : wchk f t k d = 0) : Calls Tryz.prog 35 #[wV f t k d] w fun e w' => ∃ b, e = .returned (.tuple #[.pointer (some ⟨b, 0, none⟩), .nilIface]) ∧ LnC w' b k d 0 (.slice none 0 0) ∧ w.heap.size ≤ b ∧ b < w'.heap.size ∧ Below w.heap.size w w' := by
  have hA : Below w.heap.size w (w.alloc (.cells #[.int .i64 f, .int .i64 t, .int .i64 k, .int .i64 d] 63)) := (Below.refl _ _).alloc (Nat.le_refl _) _
  have hc := wcheck_any f t k d (w.alloc (.cells #[.int .i64 f, .int .i64 t, .int .i64 k, .int .i64 d] 63))
  rw [h] at hc
  have hc' : Calls Tryz.prog 48 #[wV f t k d] (w.alloc (.cells #[.int .i64 f, .int .i64 t, .int .i64 k, .int .i64 d] 63)) fun e w' => e = .returned .nilIface ∧ Below (w.heap.size + 1) (w.alloc (.cells #[.int .i64 f, .int .i64 t, .int .i64 k, .int .i64 d] 63)) w' := hc.mono fun e w' ⟨h1, h2⟩ => ⟨h1, by simpa using h2⟩
  clear h hc
  unfold wV at hc' ⊢
  go_enter Tryz.func35, Tryz.ntmps35
  go_wp2_with (go_at_call 48; refine hc'.mono ?_; rintro e w1 ⟨rfl, b1⟩; clear hc'; have r2 : w1.cell? ⟨w.heap.size, 2, none⟩ = some (.int .i64 k) := (b1.cell (p := ⟨w.heap.size, 2, none⟩) (by simp)).trans (by simp); have r3 : w1.cell? ⟨w.heap.size, 3, none⟩ = some (.int .i64 d) := (b1.cell (p := ⟨w.heap.size, 3, none⟩) (by simp)).trans (by simp))
  go_ret2
  have hz : w.heap.size + 1 ≤ w1.heap.size := by have := b1.size; simpa using this
  refine ⟨w1.heap.size, rfl, ⟨by simp, by simp, by simp, by simp, by simp, by simp⟩, by omega, by simp, ?_⟩
  exact (hA.trans (b1.mono (by omega))).alloc (by omega) _

set_option maxRecDepth 100000 in
set_option maxHeartbeats 2000000 in
theorem send_range (v : Value) (n : Int) (w : World) (h : n < 0 ∨ 1000 ≤ n) : Calls Tryz.prog 83 #[v, .int .i64 n] w fun e w' => e = .returned (.tuple #[.bool false, .iface 70 (.int .i64 1)]) ∧ w' = w := by
  have ho := wout_yes n w h
  clear h
  go_enter Tryz.func83, Tryz.ntmps83
  go_wp2_with (go_at_call 93; refine ho.mono ?_; rintro e w1 ⟨rfl, hw1⟩; subst hw1; clear ho)
  go_ret2
  exact ⟨rfl, rfl⟩

set_option maxRecDepth 100000 in
set_option maxHeartbeats 4000000 in
theorem send_full (base b : Nat) (dp : Int) (xs : List Int) (ls : Int) (v : Value) (n : Int) (w : World) (hn0 : 0 ≤ n) (hn1 : n < 1000) (hls : 0 ≤ ls ∧ ls < 1000000000) (hL : Ln w base b 2 dp xs ls v) (hdp : dp ≤ (xs.length : Int)) :
    Calls Tryz.prog 83 #[.pointer (some ⟨b, 0, none⟩), .int .i64 n] w fun e w' => e = .returned (.tuple #[.bool false, .nilIface]) ∧ Ln w' base b 2 dp xs (ls + 1) v ∧ Touch w w' b v v := by
  have hcc := hL.c
  have hlt := hcc.lt
  obtain ⟨c0, c1, c2, c3, f2, f3⟩ := hcc
  obtain ⟨ao, cap, rfl⟩ : ∃ ao cap, v = .slice ao xs.length cap := by
    rcases row_form hL.row with ⟨rfl, h⟩ | ⟨g, cap, rfl⟩
    · exact ⟨_, _, by rw [h]⟩
    · exact ⟨_, _, rfl⟩
  have HL : Hid (Ln w base b 2 dp xs ls (.slice ao xs.length cap)) := hL
  clear hL
  obtain ⟨hls0, hls1⟩ := hls
  go_enter Tryz.func83, Tryz.ntmps83
  go_wp2_with (go_at_call 93; refine (wout_no n _ hn0 hn1).mono ?_; rintro e wz ⟨rfl, hwz⟩; subst wz)
  go_quiet (fail)
  go_wp2
  go_ret2
  have hq := HL.out.below (below_dN (Below.refl _ w) nq)
  exact ⟨rfl, ⟨hq.c.lost _, ownsRow_setCell_below hq.row (a := ⟨b, 3, none⟩) hq.lt _, hq.lt, by have := hq.le; simpa using this⟩, ((Touch.refl w b _).dN nq).set 3 _⟩

set_option maxRecDepth 100000 in
set_option maxHeartbeats 4000000 in
theorem send_room (base b : Nat) (dp : Int) (xs : List Int) (ls : Int) (v : Value) (n : Int) (w : World) (hn0 : 0 ≤ n) (hn1 : n < 1000) (hL : Ln w base b 2 dp xs ls v) (hdp : (xs.length : Int) < dp) (hx : xs.length ≤ 1000000) :
    Calls Tryz.prog 83 #[.pointer (some ⟨b, 0, none⟩), .int .i64 n] w fun e w' => ∃ v', e = .returned (.tuple #[.bool true, .nilIface]) ∧ Ln w' base b 2 dp (xs ++ [n]) ls v' ∧ Touch w w' b v v' := by
  obtain ⟨ii, hi, hz0, hz1, hz2⟩ := info_parts infoInt
  have hcc := hL.c
  have hlt := hcc.lt
  obtain ⟨c0, c1, c2, c3, f2, f3⟩ := hcc
  obtain ⟨ao, cap, rfl⟩ : ∃ ao cap, v = .slice ao xs.length cap := by
    rcases row_form hL.row with ⟨rfl, h⟩ | ⟨g, cap, rfl⟩
    · exact ⟨_, _, by rw [h]⟩
    · exact ⟨_, _, rfl⟩
  have HL : Hid (Ln w base b 2 dp xs ls (.slice ao xs.length cap)) := hL
  clear hL
  go_enter Tryz.func83, Tryz.ntmps83
  go_wp2_with (go_at_call 93; refine (wout_no n _ hn0 hn1).mono ?_; rintro e wz ⟨rfl, hwz⟩; subst wz)
  go_quiet (fail)
  have hq := HL.out.below (below_dN (Below.refl _ w) nq)
  have HQ : Hid (Ln (w.drewN nq) base b 2 dp xs ls (.slice ao xs.length cap)) := hq
  have hrow := hq.row
  clear hq
  go_wp2_with (at_builtin; refine wpList_append_at _ rfl _ _ 27 rfl base 3 ii (.int .i64 0) 1 8 Tryz.underlying27 hi hz0 hz1 hz2 rfl (by decide) _ _ _ rfl (hrow.alloc _) ⟨(w.drewN nq).heap.size, 0, none⟩ 1 1 [.int .i64 n] rfl rfl ?c1A ?c2A ?c3A ?c4A ?c5A ?_)
  case c1A => exact one_new _ _ _
  case c2A => exact one_one n
  case c3A => unfold maxLen; omega
  case c4A => omega
  case c5A => have := HQ.out.le; simp at this ⊢; omega
  intro v1 w2 own1 hg1 hat1
  have hne1 : some b ≠ (Value.slice ao xs.length cap).ownBlock := fun e => by have := (hrow.lt _ e.symm).1; have := HQ.out.lt; omega
  have hs1 : w.heap.size + 1 ≤ w2.heap.size := by have := hg1.size; simpa using this
  have hT : Touch w w2 b (.slice ao xs.length cap) v1 := (((Touch.refl w b _).dN nq).alloc _).grown hg1 (fun k hk => by have := hat1 k hk; simpa using this)
  have hc2 : LnC w2 b 2 dp ls (.slice ao xs.length cap) := (HQ.out.c.block (Below.heap_alloc _ _ _ (by simpa using hlt))).block (hg1.block b (by simp; omega) hne1)
  have HC : Hid (LnC w2 b 2 dp ls (.slice ao xs.length cap)) := hc2
  obtain ⟨k0, k1, k2, k3, k4, k5⟩ := hc2
  clear hrow hg1 hat1 c0 c1 c2 c3 f2 f3 k0 k1 k3 k5
  have hlt2 : b < w2.heap.size := by omega
  have hrow2 := ownsRow_setCell_below own1 (a := ⟨b, 2, none⟩) HQ.out.lt v1
  obtain ⟨g1, cap1, rfl⟩ : ∃ g cap, v1 = .slice (some ⟨g, 0, none⟩) (xs.length + 1) cap := by
    rcases row_form own1 with ⟨_, h⟩ | h
    · omega
    · exact h
  clear own1
  go_wp2
  go_ret2
  exact ⟨_, rfl, ⟨HC.out.items _, by rw [ints_snoc, List.length_append]; exact hrow2, HQ.out.lt, by have := HQ.out.le; simp at this ⊢; omega⟩, hT.set 2 _⟩

set_option maxRecDepth 100000 in
set_option maxHeartbeats 4000000 in
theorem send_sample (base b : Nat) (xs : List Int) (ls : Int) (v : Value) (n : Int) (w : World) (hn0 : 0 ≤ n) (hn1 : n < 1000) (hL : Ln w base b 1 1 xs ls v) :
    Calls Tryz.prog 83 #[.pointer (some ⟨b, 0, none⟩), .int .i64 n] w fun e w' => ∃ v', e = .returned (.tuple #[.bool true, .nilIface]) ∧ Ln w' base b 1 1 [n] ls v' ∧ Touch w w' b v v' := by
  obtain ⟨ii, hi, hz0, hz1, hz2⟩ := info_parts infoInt
  have hcc := hL.c
  have hlt := hcc.lt
  obtain ⟨c0, c1, c2, c3, f2, f3⟩ := hcc
  have HL : Hid (Ln w base b 1 1 xs ls v) := hL
  have hrw := hL.row
  clear hL
  rcases row_form hrw with ⟨rfl, hx0⟩ | ⟨g, cap, rfl⟩
  · have hrow0 := World.ownsRow_nil w base 3 1
    clear hrw
    have hL1 : Ln (w.setCell ⟨b, 2, none⟩ (.slice none 0 0)) base b 1 1 [] ls (.slice none 0 0) := ⟨HL.out.c.items _, ownsRow_setCell_below hrow0 (a := ⟨b, 2, none⟩) HL.out.lt _, HL.out.lt, by have := HL.out.le; simpa using this⟩
    have hT1 : Touch w (w.setCell ⟨b, 2, none⟩ (.slice none 0 0)) b (.slice none 0 0) (.slice none 0 0) := ((Touch.refl w b _).set 2 _).cut rfl
    have HL1 : Hid (Ln (w.setCell ⟨b, 2, none⟩ (.slice none 0 0)) base b 1 1 [] ls (.slice none 0 0)) := hL1
    clear hL1
    go_enter Tryz.func83, Tryz.ntmps83
    go_wp2_with (go_at_call 93; refine (wout_no n _ hn0 hn1).mono ?_; rintro e wz ⟨rfl, hwz⟩; subst wz)
    go_quiet (fail)
    have hq := HL1.out.below (below_dN (Below.refl _ _) nq)
    have HQ : Hid (Ln ((w.setCell ⟨b, 2, none⟩ (.slice none 0 0)).drewN nq) base b 1 1 [] ls (.slice none 0 0)) := hq
    have hrow := hq.row
    clear hq
    go_wp2_with (at_builtin; refine wpList_append_at _ rfl _ _ 27 rfl base 3 ii (.int .i64 0) 1 8 Tryz.underlying27 hi hz0 hz1 hz2 rfl (by decide) _ _ _ rfl (hrow.alloc _) ⟨w.heap.size, 0, none⟩ 1 1 [.int .i64 n] rfl rfl ?c1A ?c2A ?c3A ?c4A ?c5A ?_)
    case c1A => exact one_new_at (by simp) _ _
    case c2A => exact one_one n
    case c3A => unfold maxLen; simp
    case c4A => simp
    case c5A => have := HQ.out.le; simp at this ⊢; omega
    intro v1 w2 own1 hg1 hat1
    have hne1 : some b ≠ (Value.slice none 0 0).ownBlock := fun e => by have := (hrow.lt _ e.symm).1; have := HQ.out.lt; omega
    have hs1 : w.heap.size + 1 ≤ w2.heap.size := by have := hg1.size; simpa using this
    have hT : Touch w w2 b (.slice none 0 0) v1 := ((hT1.dN nq).alloc _).grown hg1 (fun k hk => by have := hat1 k hk; simpa using this)
    have hc2 : LnC w2 b 1 1 ls (.slice none 0 0) := (HQ.out.c.block (Below.heap_alloc _ _ _ (by simpa using hlt))).block (hg1.block b (by simp; omega) hne1)
    have HC : Hid (LnC w2 b 1 1 ls (.slice none 0 0)) := hc2
    obtain ⟨k0, k1, k2, k3, k4, k5⟩ := hc2
    clear hrow hg1 hat1 c0 c1 c2 c3 f2 f3 k0 k1 k3 k5
    have hlt2 : b < w2.heap.size := by omega
    have hrow2 := ownsRow_setCell_below own1 (a := ⟨b, 2, none⟩) HQ.out.lt v1
    obtain ⟨g1, cap1, rfl⟩ : ∃ g cap, v1 = .slice (some ⟨g, 0, none⟩) 1 cap := by
      rcases row_form own1 with ⟨_, h⟩ | h
      · simp at h
      · simpa using h
    clear own1
    go_wp2
    go_ret2
    exact ⟨_, rfl, ⟨HC.out.items _, hrow2, HQ.out.lt, by have := HQ.out.le; simp at this ⊢; omega⟩, hT.set 2 _⟩
  · obtain ⟨hg0, hg1, hg2, hg3, _, _, _⟩ := own_cap hrw
    have hrow0 := own_cut hrw (Nat.zero_le _)
    unfold maxLen at hg3
    clear hrw
    have hL1 : Ln (w.setCell ⟨b, 2, none⟩ (.slice (some ⟨g, 0, none⟩) 0 cap)) base b 1 1 [] ls (.slice (some ⟨g, 0, none⟩) 0 cap) := ⟨HL.out.c.items _, ownsRow_setCell_below hrow0 (a := ⟨b, 2, none⟩) HL.out.lt _, HL.out.lt, by have := HL.out.le; simpa using this⟩
    have hT1 : Touch w (w.setCell ⟨b, 2, none⟩ (.slice (some ⟨g, 0, none⟩) 0 cap)) b (.slice (some ⟨g, 0, none⟩) xs.length cap) (.slice (some ⟨g, 0, none⟩) 0 cap) := ((Touch.refl w b _).set 2 _).cut rfl
    have HL1 : Hid (Ln (w.setCell ⟨b, 2, none⟩ (.slice (some ⟨g, 0, none⟩) 0 cap)) base b 1 1 [] ls (.slice (some ⟨g, 0, none⟩) 0 cap)) := hL1
    clear hL1
    go_enter Tryz.func83, Tryz.ntmps83
    go_wp2_with (go_at_call 93; refine (wout_no n _ hn0 hn1).mono ?_; rintro e wz ⟨rfl, hwz⟩; subst wz)
    go_quiet (fail)
    have hq := HL1.out.below (below_dN (Below.refl _ _) nq)
    have HQ : Hid (Ln ((w.setCell ⟨b, 2, none⟩ (.slice (some ⟨g, 0, none⟩) 0 cap)).drewN nq) base b 1 1 [] ls (.slice (some ⟨g, 0, none⟩) 0 cap)) := hq
    have hrow := hq.row
    clear hq
    go_wp2_with (at_builtin; refine wpList_append_at _ rfl _ _ 27 rfl base 3 ii (.int .i64 0) 1 8 Tryz.underlying27 hi hz0 hz1 hz2 rfl (by decide) _ _ _ rfl (hrow.alloc _) ⟨w.heap.size, 0, none⟩ 1 1 [.int .i64 n] rfl rfl ?c1A ?c2A ?c3A ?c4A ?c5A ?_)
    case c1A => exact one_new_at (by simp) _ _
    case c2A => exact one_one n
    case c3A => unfold maxLen; simp
    case c4A => simp
    case c5A => have := HQ.out.le; simp at this ⊢; omega
    intro v1 w2 own1 hg1 hat1
    have hne1 : some b ≠ (Value.slice (some ⟨g, 0, none⟩) 0 cap).ownBlock := fun e => by have := (hrow.lt _ e.symm).1; have := HQ.out.lt; omega
    have hs1 : w.heap.size + 1 ≤ w2.heap.size := by have := hg1.size; simpa using this
    have hT : Touch w w2 b (.slice (some ⟨g, 0, none⟩) xs.length cap) v1 := ((hT1.dN nq).alloc _).grown hg1 (fun k hk => by have := hat1 k hk; simpa using this)
    have hc2 : LnC w2 b 1 1 ls (.slice (some ⟨g, 0, none⟩) 0 cap) := (HQ.out.c.block (Below.heap_alloc _ _ _ (by simpa using hlt))).block (hg1.block b (by simp; omega) hne1)
    have HC : Hid (LnC w2 b 1 1 ls (.slice (some ⟨g, 0, none⟩) 0 cap)) := hc2
    obtain ⟨k0, k1, k2, k3, k4, k5⟩ := hc2
    clear hrow hg1 hat1 c0 c1 c2 c3 f2 f3 k0 k1 k3 k5
    have hlt2 : b < w2.heap.size := by omega
    have hrow2 := ownsRow_setCell_below own1 (a := ⟨b, 2, none⟩) HQ.out.lt v1
    obtain ⟨g1, cap1, rfl⟩ : ∃ g cap, v1 = .slice (some ⟨g, 0, none⟩) 1 cap := by
      rcases row_form own1 with ⟨_, h⟩ | h
      · simp at h
      · simpa using h
    clear own1
    go_wp2
    go_ret2
    exact ⟨_, rfl, ⟨HC.out.items _, hrow2, HQ.out.lt, by have := HQ.out.le; simp at this ⊢; omega⟩, hT.set 2 _⟩
end Go.Proofs.YtajfgmlockjmhafGreatDoor
namespace Go.Proofs.YtajfgmlockjmhafGreatDoor
open Go.RowKit

theorem Ln.form {w : World} {base b : Nat} {kd dp ls : Int} {xs : List Int} {v : Value} (h : Ln w base b kd dp xs ls v) : (v = .slice none 0 0 ∧ xs = []) ∨ ∃ g cap, v = .slice (some ⟨g, 0, none⟩) xs.length cap := by
  rcases row_form h.row with ⟨rfl, h0⟩ | ⟨g, cap, rfl⟩
  · exact Or.inl ⟨rfl, List.eq_nil_of_length_eq_zero h0⟩
  · exact Or.inr ⟨_, _, rfl⟩

set_option maxRecDepth 100000 in
set_option maxHeartbeats 2000000 in
theorem peek_none (b : Nat) (kd dp ls : Int) (ao : Option Addr) (cap : Nat) (w : World) (hL : LnC w b kd dp ls (.slice ao 0 cap)) :
    Calls Tryz.prog 78 #[.pointer (some ⟨b, 0, none⟩)] w fun e w' => e = .returned (.tuple #[.int .i64 0, .bool false]) ∧ w' = w := by
  have hlt := hL.lt
  obtain ⟨c0, c1, c2, c3, f2, f3⟩ := hL
  go_enter Tryz.func78, Tryz.ntmps78
  go_wp2
  go_ret2
  exact ⟨rfl, rfl⟩
set_option maxRecDepth 100000 in
set_option maxHeartbeats 2000000 in
theorem peek_some (b : Nat) (kd dp ls : Int) (g m cap : Nat) (x : Int) (w : World) (hL : LnC w b kd dp ls (.slice (some ⟨g, 0, none⟩) m cap)) (hm : 0 < m) (hx : w.cell? ⟨g, 0, none⟩ = some (.int .i64 x)) :
    Calls Tryz.prog 78 #[.pointer (some ⟨b, 0, none⟩)] w fun e w' => e = .returned (.tuple #[.int .i64 x, .bool true]) ∧ w' = w := by
  have hlt := hL.lt
  have hlt2 := wlt hx
  have hm' : ¬ m = 0 := by omega
  obtain ⟨c0, c1, c2, c3, f2, f3⟩ := hL
  go_enter Tryz.func78, Tryz.ntmps78
  go_wp2
  go_ret2
  exact ⟨rfl, rfl⟩
end Go.Proofs.YtajfgmlockjmhafGreatDoor
namespace Go.Proofs.YtajfgmlockjmhafGreatDoor
open Go.RowKit

set_option maxRecDepth 1000000 in
set_option maxHeartbeats 4000000 in
theorem del_walk (g cap : Nat) (x : Int) (ys : List Int) (w : World) (hcap : ys.length + 1 ≤ cap) (hm : cap ≤ 9223372036854775807) (hc : ∀ i x', (ints (x :: ys))[i]? = some x' → w.cell? ⟨g, i, none⟩ = some x') (hs : ∀ i, i < cap → (w.cell? ⟨g, i, none⟩).isSome = true) (hf : ∀ i, w.frozen? ⟨g, i, none⟩ = false) :
    Calls Tryz.prog 92 #[.slice (some ⟨g, 0, none⟩) (ys.length + 1) cap, .int .i64 0, .int .i64 1] w fun e w' => e = .returned (.slice (some ⟨g, 0, none⟩) ys.length cap) ∧ w' = (w.drew.setCells g 0 (ints ys)).setCells g ys.length [.int .i64 0] := by
  obtain ⟨ii, hi, hz0, hz1, hz2⟩ := info_parts infoInt
  obtain ⟨A, hA, hsrc⟩ : ∃ A : Addr, (if cap = 1 then some (⟨g, 0, none⟩ : Addr) else some ⟨g, 1, none⟩) = some A ∧ Hid (∀ t u, (ints ys)[t]? = some u → w.drew.cell? (A.add t) = some u) := by
    by_cases h : cap = 1
    · refine ⟨⟨g, 0, none⟩, by simp [h], fun t u hu => ?_⟩
      have h0 : ys = [] := List.eq_nil_of_length_eq_zero (by omega)
      subst h0
      simp [ints] at hu
    · refine ⟨⟨g, 1, none⟩, by simp [h], fun t u hu => ?_⟩
      rw [Addr.add_lit, Nat.add_comm]
      exact hc (t + 1) u (by simpa [ints] using hu)
  have s1 : Hid ((ints ys).length = ys.length * 1) := by show _ = _; rw [ints_len, Nat.mul_one]
  have s2 : Hid (∀ u ∈ ints ys, u.oneCell' = true) := by
    intro u hu
    obtain ⟨x, _, rfl⟩ := List.mem_map.1 hu
    rfl
  have s3 : Hid (∀ t, t < (ints ys).length → (w.drew.cell? ⟨g, 0 + 0 * 1 + t, none⟩).isSome = true ∧ w.drew.frozen? ⟨g, 0 + 0 * 1 + t, none⟩ = false) := by
    intro t ht
    rw [ints_len] at ht
    exact ⟨by rw [show 0 + 0 * 1 + t = t by omega]; exact hs t (by omega), hf _⟩
  obtain ⟨W1, hW1⟩ : ∃ W1, W1 = w.drew.setCells g (0 + 0 * 1) (ints ys) := ⟨_, rfl⟩
  have hcl : ∀ ty, (Builtin.clear_ #[27] ty #[.slice (some ⟨g, ys.length, none⟩) 1 (cap - ys.length)]).run Tryz.prog W1 = .ok (.tuple #[]) (W1.setCells g ys.length [.int .i64 0]) := by
    intro ty
    have hce : W1.cell? ⟨g, ys.length, none⟩ = w.cell? ⟨g, ys.length, none⟩ := by
      rw [hW1, World.cell?_setCells_out g _ _ _ _ (fun _ _ => by right; show 0 + 0 * 1 + (ints ys).length ≤ ys.length; rw [ints_len]; omega)]
      rfl
    have hfe : W1.frozen? ⟨g, ys.length, none⟩ = w.frozen? ⟨g, ys.length, none⟩ := by
      rw [hW1, World.frozen?_setCells]
      rfl
    exact Lib.run_clear_slice W1 27 3 ty (.int .i64 0) Tryz.underlying27 Tryz.zeroValue3 rfl rfl g ys.length 1 (cap - ys.length) (by omega)
      (fun j hj => by obtain rfl : j = 0 := by omega
                      rw [Nat.add_zero, hce]; exact hs _ (by omega))
      (fun j hj => by obtain rfl : j = 0 := by omega
                      rw [Nat.add_zero, hfe]; exact hf _)
  have hW : Hid (W1 = w.drew.setCells g (0 + 0 * 1) (ints ys)) := hW1
  clear hW1
  have h1c : 1 ≤ cap := by omega
  have h1i : (1 : Int) ≤ (ys.length : Int) + 1 := by omega
  clear hc hs hf
  go_enter Tryz.func92, Tryz.ntmps92
  go_wp2_with fail
  go_region_law (refine step_append_room rfl (.tmp 22) (.tmp 25) 27 rfl 3 ii 1 Tryz.underlying27 hi hz1 g 0 0 cap (by simp [Act.eval, Act.put]) A ys.length (cap - 1) (ints ys) (by simp [Act.eval, Act.put]) s1.out hsrc.out s2.out (by omega) s3.out ?_; rw [← hW.out])
  all_goals go_wp2
  all_goals go_ret
  all_goals exact ⟨rfl, by rw [hW.out]⟩

theorem cells_heap {g : Nat} {e : TypeId} : ∀ (vs : List Value) (o : Nat) (w : World) (cur : Array Value), w.heap[g]? = some (.cells cur e (0, 0)) → ∃ cur', (w.setCells g o vs).heap[g]? = some (.cells cur' e (0, 0)) ∧ cur'.size = cur.size
  | [], _, _, cur, h => ⟨cur, h, rfl⟩
  | v :: r, o, w, cur, h => by
    obtain ⟨c, h1, h2⟩ := cells_heap r (o + 1) (w.setCell ⟨g, o, none⟩ v) _ (heap_setCell_same w g o cur e v h)
    exact ⟨c, h1, by simpa using h2⟩
theorem cells_other {g k : Nat} (hk : k ≠ g) : ∀ (vs : List Value) (o : Nat) (w : World), (w.setCells g o vs).heap[k]? = w.heap[k]?
  | [], _, _ => rfl
  | v :: r, o, w => by rw [World.setCells, cells_other hk r, heap_setCell_other _ _ _ _ hk]
theorem cells_rest (g : Nat) : ∀ (vs : List Value) (o : Nat) (w : World), (w.setCells g o vs).os = w.os ∧ (w.setCells g o vs).tape = w.tape ∧ (w.setCells g o vs).output = w.output ∧ (w.setCells g o vs).heap.size = w.heap.size
  | [], _, _ => ⟨rfl, rfl, rfl, rfl⟩
  | v :: r, o, w => by
    obtain ⟨h1, h2, h3, h4⟩ := cells_rest g r (o + 1) (w.setCell ⟨g, o, none⟩ v)
    exact ⟨h1, h2, h3, h4.trans (by simp [World.setCell])⟩
/-- Behind it the row is what it was without its first. -/
theorem del_row {base g cap : Nat} {x : Int} {ys : List Int} {w : World} (h : w.ownsRow base 3 1 (.slice (some ⟨g, 0, none⟩) (ys.length + 1) cap) (ys.length + 1) (ints (x :: ys))) :
    ((w.drew.setCells g 0 (ints ys)).setCells g ys.length [.int .i64 0]).ownsRow base 3 1 (.slice (some ⟨g, 0, none⟩) ys.length cap) ys.length (ints ys) ∧ w.grownBy ((w.drew.setCells g 0 (ints ys)).setCells g ys.length [.int .i64 0]) (some g) := by
  have hcap := own_cap h
  rcases h.2 with ⟨h2, _⟩ | ⟨g', cap', cur, e0, h3, h4, h5, h6, h7, h8⟩
  · cases h2
  · injection e0 with e1 _ e3
    injection e1 with e1
    injection e1 with e1
    subst e1
    subst e3
    obtain ⟨c1, i1, i2⟩ := cells_heap (g := g) (ints ys) 0 w.drew cur h4
    obtain ⟨c2, j1, j2⟩ := cells_heap (g := g) [.int .i64 0] ys.length _ c1 i1
    obtain ⟨a1, a2, a3, a4⟩ := cells_rest g (ints ys) 0 w.drew
    obtain ⟨b1, b2, b3, b4⟩ := cells_rest g [.int .i64 0] ys.length (w.drew.setCells g 0 (ints ys))
    refine ⟨⟨by rw [ints_len, Nat.mul_one], Or.inr ⟨g, cap, c2, rfl, h3, j1, by omega, h6, by omega, ?_⟩⟩, ⟨b1.trans a1, b2.trans a2, b3.trans a3, by rw [b4, a4]; exact Nat.le_refl _, fun k _ hk => ?_⟩⟩
    · apply List.ext_getElem?
      intro i
      rw [List.getElem?_take, Nat.mul_one]
      by_cases hi : i < ys.length
      · rw [if_pos hi, Array.getElem?_toList]
        have hin := World.cell?_setCells_in g (ints ys) 0 w.drew (fun j hj => hcap.2.2.2.2.2.1 _ (by rw [ints_len] at hj; omega)) i (by rw [ints_len]; exact hi)
        rw [Nat.zero_add] at hin
        have hout := World.cell?_setCells_out g [.int .i64 0] ys.length (w.drew.setCells g 0 (ints ys)) ⟨g, i, none⟩ (fun _ _ => Or.inl hi)
        rw [hin, cell_of_row _ g i c2 _ _ j1] at hout
        rw [hout, List.getElem?_eq_getElem (by rw [ints_len]; exact hi)]
      · rw [if_neg hi, List.getElem?_eq_none (by rw [ints_len]; omega)]
    · have hkg : k ≠ g := fun e => hk (by rw [e])
      rw [cells_other hkg, cells_other hkg]
      rfl
theorem del_first (base g cap : Nat) (x : Int) (ys : List Int) (w : World) (h : w.ownsRow base 3 1 (.slice (some ⟨g, 0, none⟩) (ys.length + 1) cap) (ys.length + 1) (ints (x :: ys))) :
    Calls Tryz.prog 92 #[.slice (some ⟨g, 0, none⟩) (ys.length + 1) cap, .int .i64 0, .int .i64 1] w fun e w' => e = .returned (.slice (some ⟨g, 0, none⟩) ys.length cap) ∧
      w'.ownsRow base 3 1 (.slice (some ⟨g, 0, none⟩) ys.length cap) ys.length (ints ys) ∧ w.grownBy w' (some g) := by
  obtain ⟨_, _, h3, h4, h5, h6, h7⟩ := own_cap h
  refine (del_walk g cap x ys w h3 (by simpa [maxLen] using h4) h5 h6 h7).mono fun e w' ⟨he, hw⟩ => ?_
  subst hw
  exact ⟨he, del_row h⟩
end Go.Proofs.YtajfgmlockjmhafGreatDoor
namespace Go.Proofs.YtajfgmlockjmhafGreatDoor
open Go.RowKit

set_option maxRecDepth 100000 in
set_option maxHeartbeats 2000000 in
theorem take_none (b : Nat) (kd dp ls : Int) (ao : Option Addr) (cap : Nat) (w : World) (hL : LnC w b kd dp ls (.slice ao 0 cap)) :
    Calls Tryz.prog 82 #[.pointer (some ⟨b, 0, none⟩)] w fun e w' => e = .returned (.tuple #[.int .i64 0, .iface 70 (.int .i64 5)]) ∧ w' = w := by
  have hp := peek_none b kd dp ls ao cap w hL
  clear hL
  go_enter Tryz.func82, Tryz.ntmps82
  go_wp2_with (go_at_call 78; refine hp.mono ?_; rintro e w1 ⟨rfl, rfl⟩; clear hp)
  go_ret2
  exact ⟨rfl, rfl⟩
set_option maxRecDepth 100000 in
set_option maxHeartbeats 2000000 in
theorem take_sample (b : Nat) (dp ls : Int) (g m cap : Nat) (x : Int) (w : World) (hL : LnC w b 1 dp ls (.slice (some ⟨g, 0, none⟩) m cap)) (hm : 0 < m) (hx : w.cell? ⟨g, 0, none⟩ = some (.int .i64 x)) :
    Calls Tryz.prog 82 #[.pointer (some ⟨b, 0, none⟩)] w fun e w' => e = .returned (.tuple #[.int .i64 x, .nilIface]) ∧ w' = w := by
  have hp := peek_some b 1 dp ls g m cap x w hL hm hx
  have hlt := hL.lt
  obtain ⟨c0, c1, c2, c3, f2, f3⟩ := hL
  clear c1 c2 c3 f2 f3 hx
  go_enter Tryz.func82, Tryz.ntmps82
  go_wp2_with (go_at_call 78; refine hp.mono ?_; rintro e w1 ⟨rfl, rfl⟩; clear hp)
  go_ret2
  exact ⟨rfl, rfl⟩
set_option maxRecDepth 100000 in
set_option maxHeartbeats 4000000 in
theorem take_queue (base b : Nat) (dp ls : Int) (x : Int) (ys : List Int) (v : Value) (w : World) (hL : Ln w base b 2 dp (x :: ys) ls v) :
    Calls Tryz.prog 82 #[.pointer (some ⟨b, 0, none⟩)] w fun e w' => ∃ v', e = .returned (.tuple #[.int .i64 x, .nilIface]) ∧ Ln w' base b 2 dp ys ls v' ∧ Touch w w' b v v' := by
  obtain ⟨g, cap, rfl⟩ : ∃ g cap, v = .slice (some ⟨g, 0, none⟩) (ys.length + 1) cap := by
    rcases row_form hL.row with ⟨_, h⟩ | h
    · simp at h
    · exact h
  have hrow := hL.row
  have hcp := own_cap hrow
  have hx : w.cell? ⟨g, 0, none⟩ = some (.int .i64 x) := hcp.2.2.2.2.1 0 _ rfl
  have hp := peek_some b 2 dp ls g (ys.length + 1) cap x w hL.c (by omega) hx
  have hd := del_first base g cap x ys w hrow
  have HL : Hid (Ln w base b 2 dp (x :: ys) ls (.slice (some ⟨g, 0, none⟩) (ys.length + 1) cap)) := hL
  have hlt := hL.c.lt
  have hbg : b ≠ g := by have := hL.lt; have := hcp.1; omega
  obtain ⟨c0, c1, c2, c3, f2, f3⟩ := hL.c
  clear c1 c3 f3 hx hL hrow hcp
  go_enter Tryz.func82, Tryz.ntmps82
  go_wp2_with (first | (go_at_call 78; refine hp.mono ?_; rintro e w1 ⟨rfl, rfl⟩; clear hp) | (go_at_call 92; refine hd.mono ?_; rintro e w2 ⟨rfl, own2, hg2⟩; clear hd; have hb2 := hg2.block b hlt (fun e => hbg (Option.some.inj e)); have hc2 := HL.out.c.block hb2; have HC : Hid (LnC w2 b 2 dp ls (.slice (some ⟨g, 0, none⟩) (ys.length + 1) cap)) := hc2; obtain ⟨k0, k1, k2, k3, k4, k5⟩ := hc2; clear k0 k1 k3 k5; have hlt2 := HC.out.lt))
  go_ret2
  refine ⟨_, rfl, ⟨HC.out.items _, ownsRow_setCell_below own2 (a := ⟨b, 2, none⟩) HL.out.lt _, HL.out.lt, by have := HL.out.le; have := hg2.size; simp; omega⟩, ?_⟩
  exact ((Touch.refl w1 b (.slice (some ⟨g, 0, none⟩) (ys.length + 1) cap)).grown (v2 := .slice (some ⟨g, 0, none⟩) ys.length cap) hg2 (fun k hk => Or.inl hk)).set 2 _
end Go.Proofs.YtajfgmlockjmhafGreatDoor
namespace Go.Proofs.YtajfgmlockjmhafGreatDoor
open Go.RowKit

theorem Ln.first {w : World} {base b : Nat} {kd dp ls : Int} {x : Int} {ys : List Int} {v : Value} (h : Ln w base b kd dp (x :: ys) ls v) : ∃ g cap, v = .slice (some ⟨g, 0, none⟩) (ys.length + 1) cap ∧ w.cell? ⟨g, 0, none⟩ = some (.int .i64 x) := by
  rcases h.form with ⟨_, e⟩ | ⟨g, cap, rfl⟩
  · cases e
  · have := h.row.cells (g := g) rfl 0 (.int .i64 x) (by simp [ints])
    rw [Addr.add_lit, Nat.zero_add] at this
    exact ⟨g, cap, rfl, this⟩
theorem Ln.none {w : World} {base b : Nat} {kd dp ls : Int} {v : Value} (h : Ln w base b kd dp [] ls v) : ∃ ao cap, v = .slice ao 0 cap := by
  rcases h.form with ⟨rfl, _⟩ | ⟨g, cap, rfl⟩
  · exact ⟨_, _, rfl⟩
  · exact ⟨_, _, rfl⟩
theorem dpeek_l (base b : Nat) (l : LnD) (u : Value) (w : World) (hL : Ln w base b l.w.2.2.1 l.w.2.2.2 l.xs l.ls u) :
    Calls Tryz.prog 78 #[.pointer (some ⟨b, 0, none⟩)] w fun e w' => e = .returned (.tuple #[.int .i64 (headL l).1, .bool (headL l).2]) ∧ w' = w := by
  obtain ⟨x, xs, ls⟩ := l
  cases xs with
  | nil =>
    obtain ⟨ao, cap, rfl⟩ := Ln.none hL
    exact peek_none b _ _ ls ao cap w hL.c
  | cons n ys =>
    obtain ⟨g, cap, rfl, h1⟩ := Ln.first hL
    exact peek_some b _ _ ls g _ cap n w hL.c (by omega) h1
theorem dtake_l (base b : Nat) (l : LnD) (u : Value) (w : World) (hk : l.w.2.2.1 = 1 ∨ l.w.2.2.1 = 2) (hh : (headL l).2 = true) (hL : Ln w base b l.w.2.2.1 l.w.2.2.2 l.xs l.ls u) :
    Calls Tryz.prog 82 #[.pointer (some ⟨b, 0, none⟩)] w fun e w' => ∃ u', e = .returned (.tuple #[.int .i64 (headL l).1, .nilIface]) ∧ Ln w' base b (restL l).w.2.2.1 (restL l).w.2.2.2 (restL l).xs (restL l).ls u' ∧ Touch w w' b u u' := by
  obtain ⟨x, xs, ls⟩ := l
  simp only at hk hL
  cases xs with
  | nil => simp [headL] at hh
  | cons n ys =>
    rcases hk with h1 | h2
    · have e2 : restL ⟨x, n :: ys, ls⟩ = ⟨x, n :: ys, ls⟩ := by simp [restL, h1]
      rw [e2]
      obtain ⟨g, cap, rfl, hc⟩ := Ln.first hL
      rw [h1] at hL
      refine (take_sample b _ ls g _ cap n w hL.c (by omega) hc).mono ?_
      rintro e w' ⟨rfl, rfl⟩
      exact ⟨_, rfl, by simp only [h1]; exact hL, Touch.refl _ _ _⟩
    · have e2 : restL ⟨x, n :: ys, ls⟩ = ⟨x, ys, ls⟩ := by simp [restL, h2]
      rw [e2]
      rw [h2] at hL
      refine (take_queue base b _ ls n ys u w hL).mono ?_
      rintro e w' ⟨u', rfl, h3, h4⟩
      exact ⟨u', rfl, by simp only [h2]; exact h3, h4⟩
theorem dsend_l (base b : Nat) (l : LnD) (u : Value) (n : Int) (w : World) (hk : (l.w.2.2.1 = 1 ∧ l.w.2.2.2 = 1) ∨ l.w.2.2.1 = 2) (hn : 0 ≤ n ∧ n ≤ 999) (hls : 0 ≤ l.ls ∧ l.ls < 1000000000) (hx : l.xs.length ≤ 1000000) (hL : Ln w base b l.w.2.2.1 l.w.2.2.2 l.xs l.ls u) :
    Calls Tryz.prog 83 #[.pointer (some ⟨b, 0, none⟩), .int .i64 n] w fun e w' => ∃ u', e = .returned (.tuple #[.bool (fitL l), .nilIface]) ∧ Ln w' base b (putL l n).w.2.2.1 (putL l n).w.2.2.2 (putL l n).xs (putL l n).ls u' ∧ Touch w w' b u u' := by
  obtain ⟨x, xs, ls⟩ := l
  simp only at hk hls hx hL
  rcases hk with ⟨h1, h1'⟩ | h2
  · have e1 : fitL ⟨x, xs, ls⟩ = true := by simp [fitL, h1]
    have e2 : putL ⟨x, xs, ls⟩ n = ⟨x, [n], ls⟩ := by simp [putL, h1]
    rw [e1, e2]
    rw [h1, h1'] at hL
    refine (send_sample base b xs ls u n w hn.1 (by omega) hL).mono ?_
    rintro e w' ⟨u', rfl, h3, h4⟩
    exact ⟨u', rfl, by simp only [h1, h1']; exact h3, h4⟩
  · rw [h2] at hL
    by_cases hd : (xs.length : Int) < x.2.2.2
    · have e1 : fitL ⟨x, xs, ls⟩ = true := by simp [fitL, hd]
      have e2 : putL ⟨x, xs, ls⟩ n = ⟨x, xs ++ [n], ls⟩ := by simp [putL, h2, hd]
      rw [e1, e2]
      refine (send_room base b _ xs ls u n w hn.1 (by omega) hL hd hx).mono ?_
      rintro e w' ⟨u', rfl, h3, h4⟩
      exact ⟨u', rfl, by simp only [h2]; exact h3, h4⟩
    · have e1 : fitL ⟨x, xs, ls⟩ = false := by simp [fitL, h2]; omega
      have e2 : putL ⟨x, xs, ls⟩ n = ⟨x, xs, ls + 1⟩ := by simp [putL, h2, hd]
      rw [e1, e2]
      refine (send_full base b _ xs ls u n w hn.1 (by omega) hls hL (by omega)).mono ?_
      rintro e w' ⟨rfl, h3, h4⟩
      exact ⟨u, rfl, by simp only [h2]; exact h3, h4⟩
end Go.Proofs.YtajfgmlockjmhafGreatDoor
namespace Go.Proofs.YtajfgmlockjmhafGreatDoor
open Go.RowKit

set_option maxRecDepth 100000 in
set_option maxHeartbeats 1000000 in
theorem kbelow_yes (n b : Int) (w : World) (h0 : 0 ≤ n) (h1 : n < b) : Calls Tryz.prog 43 #[.int .i64 n, .int .i64 b] w fun e w' => e = .returned (.bool true) ∧ w' = w := by
  go_enter Tryz.func43, Tryz.ntmps43
  go_wp2
  go_ret
  exact ⟨rfl, rfl⟩
set_option maxRecDepth 100000 in
set_option maxHeartbeats 1000000 in
theorem kbelow_no (n b : Int) (w : World) (h : ¬ (0 ≤ n ∧ n < b)) : Calls Tryz.prog 43 #[.int .i64 n, .int .i64 b] w fun e w' => e = .returned (.bool false) ∧ w' = w := by
  by_cases h0 : 0 ≤ n
  · have h1 : decide (n < b) = false := by simp; omega
    clear h
    go_enter Tryz.func43, Tryz.ntmps43
    go_wp2
    go_ret
    exact ⟨rfl, rfl⟩
  · have h0' : decide (0 ≤ n) = false := by simp; omega
    clear h
    go_enter Tryz.func43, Tryz.ntmps43
    go_wp2
    go_ret
    exact ⟨rfl, rfl⟩
theorem kbelow_any (n b : Int) (w : World) : Calls Tryz.prog 43 #[.int .i64 n, .int .i64 b] w fun e w' => e = .returned (.bool (decide (0 ≤ n) && decide (n < b))) ∧ w' = w := by
  by_cases h : 0 ≤ n ∧ n < b
  · refine (kbelow_yes n b w h.1 h.2).mono ?_
    rintro e w' ⟨rfl, rfl⟩
    simp [h.1, h.2]
  · refine (kbelow_no n b w h).mono ?_
    rintro e w' ⟨rfl, rfl⟩
    refine ⟨?_, rfl⟩
    have : (decide (0 ≤ n) && decide (n < b)) = false := by
      rw [← Bool.decide_and]
      exact decide_eq_false h
    rw [this]
set_option maxRecDepth 100000 in
set_option maxHeartbeats 4000000 in
theorem gstate_any (p : PD) (k : KD) (kb base : Nat) (a : GW) (r : Int) (w : World) (h : GK w base p k kb a) :
    Calls Tryz.prog 28 #[.pointer (some ⟨kb, 0, none⟩), .int .i64 r] w fun e w' => e = .returned (.tuple #[stA (roomK k r), wErr (errB (noRoom k r))]) ∧ Below w.heap.size w w' := by
  have c3 := h.c3
  have hkb := h.lt.1
  by_cases hr : 0 ≤ r ∧ r < (k.rooms.length : Int)
  · obtain ⟨n, rfl⟩ : ∃ n : Nat, r = n := ⟨r.toNat, by omega⟩
    have hn : n < k.rooms.length := by omega
    have hni : (n : Int) < (k.rooms.length : Int) := by omega
    have hno : noRoom k n = false := by
      unfold noRoom
      rw [Bool.or_eq_false_iff]
      exact ⟨decide_eq_false (by omega), decide_eq_false (by omega)⟩
    have hrk : roomK k n = k.rooms[n] := by
      unfold roomK
      rw [if_neg (by rw [hno]; decide), Int.toNat_natCast]
      simp [List.getD, hn]
    have hst := h.rooms n k.rooms[n] (List.getElem?_eq_getElem hn)
    rw [hrk, hno]
    generalize k.rooms[n] = s at hst ⊢
    obtain ⟨s0, s1, s2, s3, s4, s5, s6, s7⟩ := hst
    have hrb := wlt s0
    have hn0 := World.new_ne w ⟨a.rb, n * 8, none⟩ s0
    have hnk := World.new_ne w ⟨kb, 3, none⟩ c3
    clear h hno hrk hr
    go_enter Tryz.func28, Tryz.ntmps28
    go_wp2_with (go_at_call 43; refine (kbelow_yes _ _ _ (by omega) hni).mono ?_; rintro e w1 ⟨rfl, hw1⟩; subst hw1)
    refine bodyPost_ret (v := .tuple #[stA s, wErr (errB false)]) ?_ rfl ⟨rfl, ?_⟩
    · simp [results, Tryz.results28, go_sem, stA, wErr, errB]
    · repeat' first | exact Below.refl _ _ | refine Below.drew ?_ | refine Below.alloc ?_ (by simp <;> omega) _ | refine Below.setCell ?_ (by simp <;> omega) _
  · have hno : noRoom k r = true := by
      unfold noRoom
      rw [Bool.or_eq_true]
      by_cases h0 : r < 0
      · exact Or.inl (decide_eq_true h0)
      · exact Or.inr (decide_eq_true (by omega))
    have hrk : roomK k r = stNew := by
      unfold roomK
      rw [if_pos hno]
    rw [hrk, hno]
    have hnk := World.new_ne w ⟨kb, 3, none⟩ c3
    clear h hno hrk
    go_enter Tryz.func28, Tryz.ntmps28
    go_wp2_with (go_at_call 43; refine (kbelow_no _ _ _ hr).mono ?_; rintro e w1 ⟨rfl, hw1⟩; subst hw1)
    refine bodyPost_ret (v := .tuple #[stA stNew, wErr (errB true)]) ?_ rfl ⟨rfl, ?_⟩
    · simp [results, Tryz.results28, go_sem, stA, stNew, wErr, errB]
    · repeat' first | exact Below.refl _ _ | refine Below.drew ?_ | refine Below.alloc ?_ (by simp <;> omega) _ | refine Below.setCell ?_ (by simp <;> omega) _
end Go.Proofs.YtajfgmlockjmhafGreatDoor
namespace Go.Proofs.YtajfgmlockjmhafGreatDoor
open Go.RowKit

set_option maxRecDepth 100000 in
set_option maxHeartbeats 4000000 in
theorem gcheck_any (p : PD) (k : KD) (kb base : Nat) (a : GW) (r c n : Int) (w : World) (h : GK w base p k kb a) :
    Calls Tryz.prog 38 #[.pointer (some ⟨kb, 0, none⟩), .int .i64 r, .int .i64 c, .int .i64 n] w fun e w' => e = .returned (wErr (pokeN k r c n)) ∧ w' = w := by
  have c3 := h.c3
  have H : Hid (GK w base p k kb a) := h
  clear h
  go_enter Tryz.func38, Tryz.ntmps38
  go_upto_region 1 with fail
  go_cut [26] from 9 to 25 (fun s26 wx => s26 = .bool (pokeB k r c n) ∧ wx = w)
  case first =>
    by_cases h0 : 0 ≤ r ∧ r < (k.rooms.length : Int)
    · by_cases h1 : 0 ≤ c ∧ c < 6
      · have HX : Hid (pokeB k r c n = !(decide (0 ≤ n) && decide (n < 1000))) := by
          show _ = _
          unfold pokeB
          have e1 : decide (r < 0) = false := decide_eq_false (by omega)
          have e2 : decide ((k.rooms.length : Int) ≤ r) = false := decide_eq_false (by omega)
          have e3 : decide (c < 0) = false := decide_eq_false (by omega)
          have e4 : decide (5 < c) = false := decide_eq_false (by omega)
          simp only [e1, e2, e3, e4, Bool.false_or]
          by_cases e5 : n < 0
          · simp [e5] <;> omega
          · by_cases e6 : 999 < n
            · simp [e6] <;> omega
            · simp [e5, e6] <;> omega
        have b0 : (decide (0 ≤ r) && decide (r < (k.rooms.length : Int))) = true := by simp [h0.1, h0.2]
        have b1 : (decide (0 ≤ c) && decide (c < 6)) = true := by simp [h1.1, h1.2]
        go_wp2_with (go_at_call 43; refine (kbelow_any _ _ _).mono ?_; rintro e w1 ⟨rfl, hw1⟩; subst hw1; first | rw [b0] | rw [b1] | skip)
        go_meet
        case rel => exact ⟨by rw [HX.out, Bool.not_and], rfl⟩
      · have HX : Hid (pokeB k r c n = true) := by
          show _ = _
          unfold pokeB
          by_cases e3 : c < 0
          · simp [e3]
          · have e4 : 5 < c := by omega
            simp [e4]
        have b0 : (decide (0 ≤ r) && decide (r < (k.rooms.length : Int))) = true := by simp [h0.1, h0.2]
        have b1 : (decide (0 ≤ c) && decide (c < 6)) = false := by
          rw [← Bool.decide_and]
          exact decide_eq_false h1
        go_wp2_with (go_at_call 43; refine (kbelow_any _ _ _).mono ?_; rintro e w1 ⟨rfl, hw1⟩; subst hw1; first | rw [b0] | rw [b1] | skip)
        go_meet
        case rel => exact ⟨by rw [HX.out], rfl⟩
    · have HX : Hid (pokeB k r c n = true) := by
        show _ = _
        unfold pokeB
        by_cases e1 : r < 0
        · simp [e1]
        · have e2 : (k.rooms.length : Int) ≤ r := by omega
          simp [e2]
      go_wp2_with (go_at_call 43; refine (kbelow_no _ _ _ h0).mono ?_; rintro e w1 ⟨rfl, hw1⟩; subst hw1)
      go_meet
      case rel => exact ⟨by rw [HX.out], rfl⟩
  case rest =>
  obtain ⟨rfl, hwc⟩ := hcut
  rw [hwc]
  clear hwc
  have HN : Hid (pokeN k r c n = if pokeB k r c n = true then 1 else 0) := rfl
  cases hb : pokeB k r c n with
  | true =>
    go_wp2
    go_ret
    exact ⟨by rw [HN.out, hb]; rfl, rfl⟩
  | false =>
    go_wp2
    go_ret
    exact ⟨by rw [HN.out, hb]; rfl, rfl⟩
set_option maxRecDepth 100000 in
set_option maxHeartbeats 4000000 in
theorem gpoke_any (p : PD) (k : KD) (kb base : Nat) (a : GW) (r c n : Int) (w : World) (h : GK w base p k kb a) :
    Calls Tryz.prog 22 #[.pointer (some ⟨kb, 0, none⟩), .int .i64 r, .int .i64 c, .int .i64 n] w fun e w' => e = .returned (wErr (pokeN k r c n)) ∧ GK w' base p (pokeK k r c n) kb a ∧ KTouch (a.F kb) w w' := by
  have c3 := h.c3
  have hck := gcheck_any p k kb base a r c n w h
  have H : Hid (GK w base p k kb a) := h
  clear h
  cases hb : pokeB k r c n with
  | true =>
    have HN : Hid (pokeN k r c n = 1) := by show _ = _; unfold pokeN; rw [hb]; rfl
    rw [HN.out, show wErr 1 = .iface 70 (.int .i64 1) from rfl] at hck
    go_enter Tryz.func22, Tryz.ntmps22
    go_wp2_with (go_at_call 38; refine hck.mono ?_; rintro e w1 ⟨rfl, rfl⟩; clear hck)
    go_ret
    exact ⟨by rw [HN.out]; rfl, by unfold pokeK; rw [hb, if_pos rfl]; exact H.out, KTouch.refl _ _⟩
  | false =>
    obtain ⟨h0, h1, h2, h3, h4, h5⟩ := pokeB_false hb
    obtain ⟨rn, rfl⟩ : ∃ m : Nat, r = m := ⟨r.toNat, by omega⟩
    obtain ⟨cn, rfl⟩ : ∃ m : Nat, c = m := ⟨c.toNat, by omega⟩
    have hrl : rn < k.rooms.length := by omega
    have hcl : cn ≤ 5 := by omega
    have hc6 : (cn : Int) < 6 := by omega
    have hs : k.rooms[rn]? = some k.rooms[rn] := List.getElem?_eq_getElem hrl
    have hst := H.out.rooms rn _ hs
    have hcell : ∃ v, w.cell? ⟨a.rb, rn * 8 + 1 + cn, none⟩ = some v := by
      obtain ⟨q0, q1, q2, q3, q4, q5, q6, q7⟩ := hst
      match cn, hcl with
      | 0, _ => exact ⟨_, q1⟩
      | 1, _ => exact ⟨_, q2⟩
      | 2, _ => exact ⟨_, q3⟩
      | 3, _ => exact ⟨_, q4⟩
      | 4, _ => exact ⟨_, q5⟩
      | 5, _ => exact ⟨_, q6⟩
    obtain ⟨v0, hv0⟩ := hcell
    have hfz := H.out.rf (rn * 8 + 1 + cn)
    have HK : Hid (pokeK k rn cn n = ⟨k.rooms.set rn (pokeS k.rooms[rn] cn n), k.lines, k.time⟩) := by
      show _ = _
      unfold pokeK
      rw [hb, if_neg (by decide)]
      simp [List.getD, hs]
    clear hst hs
    have HN : Hid (pokeN k rn cn n = 0) := by show _ = _; unfold pokeN; rw [hb]; rfl
    rw [HN.out, show wErr 0 = .nilIface from rfl] at hck
    clear hb
    go_enter Tryz.func22, Tryz.ntmps22
    go_wp2_with (go_at_call 38; refine hck.mono ?_; rintro e w1 ⟨rfl, rfl⟩; clear hck)
    go_ret
    refine ⟨by rw [HN.out]; rfl, ?_, KTouch.set _ (by simp [GW.F]) _ _⟩
    rw [HK.out]
    exact H.out.poke (List.getElem?_eq_getElem hrl) hcl n
end Go.Proofs.YtajfgmlockjmhafGreatDoor
namespace Go.Proofs.YtajfgmlockjmhafGreatDoor
open Go.RowKit

set_option maxRecDepth 1000000 in
set_option maxHeartbeats 4000000 in
theorem refwho_some (n : Int) (l : List S3) (b off cap : Nat) (t : Int) (w : World) (hn0 : 1 ≤ n) (hn1 : n ≤ 40) (ht : 0 ≤ t) (hlen : l.length ≤ 12) (hlt : b < w.heap.size) (hc : SpC w b off l) :
    Calls Tryz.prog 26 #[.int .i64 n, .slice (some ⟨b, off, none⟩) l.length cap, .int .i64 t] w fun e w' => e = .returned (.int .i64 (hold l (t % n))) ∧ Below w.heap.size w w' := by
  have hn' : ¬ n = 0 := by omega
  go_enter Tryz.func26, Tryz.ntmps26
  go_wp2
  go_loopw [7] (fun i wr => ∃ k : Nat, k ≤ l.length ∧ i = .int .i64 k ∧ Hid (hold l (t % n) = hold (l.drop k) (t % n)) ∧ Below w.heap.size w wr) (fun i _ => l.length - (intOf i).toNat)
  case atStart => exact ⟨0, Nat.zero_le _, rfl, by show _ = _; simp, Below.refl _ _⟩
  case round =>
    obtain ⟨k, hk, rfl, HS, hb⟩ := hrel
    by_cases hkl : k < l.length
    · obtain ⟨o, ho⟩ : ∃ o, l[k]? = some o := ⟨l[k], List.getElem?_eq_getElem hkl⟩
      have HD : Hid (hold l (t % n) = if hits (t % n) o = true then o.2.2 else hold (l.drop (k + 1)) (t % n)) := HS.out.trans (hold_drop ho)
      obtain ⟨c0, c1, c2⟩ := hc.below hb hlt k o ho
      clear ho HS
      have hki : (k : Int) < (l.length : Int) := by omega
      by_cases h1 : o.1 ≤ t % n
      · by_cases h2 : t % n < o.2.1
        · have HF : Hid (hold l (t % n) = o.2.2) := by show _ = _; rw [HD.out, if_pos (by simp [hits, h1, h2])]
          have h1' : decide (o.1 ≤ t % n) = true := by simpa using h1
          have h2' : decide (t % n < o.2.1) = true := by simpa using h2
          clear HD
          go_wp2
          go_quiet (fail)
          go_wp2
          go_ret
          exact ⟨retI HF.out.symm, below_drewN hb _⟩
        · have HF : Hid (hold l (t % n) = hold (l.drop (k + 1)) (t % n)) := by show _ = _; rw [HD.out, if_neg (by simp [hits, h2])]
          have h1' : decide (o.1 ≤ t % n) = true := by simpa using h1
          have h2' : decide (t % n < o.2.1) = false := by simpa using h2
          clear HD
          go_wp2
          go_quiet (fail)
          go_wp2
          go_roundw
          case rel => exact ⟨k + 1, by omega, by go_num, HF.out, below_drewN hb _⟩
          case measure => simp [intOf]; omega
      · have HF : Hid (hold l (t % n) = hold (l.drop (k + 1)) (t % n)) := by show _ = _; rw [HD.out, if_neg (by simp [hits, h1])]
        have h1' : decide (o.1 ≤ t % n) = false := by simpa using h1
        clear HD
        go_wp2
        go_quiet (fail)
        go_wp2
        go_roundw
        case rel => exact ⟨k + 1, by omega, by go_num, HF.out, below_drewN hb _⟩
        case measure => simp [intOf]; omega
    · obtain rfl : k = l.length := by omega
      have HF : Hid (hold l (t % n) = -1) := by show _ = _; rw [HS.out, List.drop_length]; rfl
      clear HS
      go_wp2
      go_ret
      exact ⟨retI HF.out.symm, hb⟩
set_option maxRecDepth 100000 in
set_option maxHeartbeats 2000000 in
theorem refwho_nil (n : Int) (ao : Option Addr) (cap : Nat) (t : Int) (w : World) :
    Calls Tryz.prog 26 #[.int .i64 n, .slice ao 0 cap, .int .i64 t] w fun e w' => e = .returned (.int .i64 (-1)) ∧ Below w.heap.size w w' := by
  go_enter Tryz.func26, Tryz.ntmps26
  go_wp2
  refine wp_loop_rounds 1 ?_
  rw [rounds_succ]
  go_wp2
  go_ret
  exact ⟨rfl, Below.refl _ _⟩
theorem refwho_any (n : Int) (l : List S3) (v : Value) (t : Int) (w : World) (hl : Sps w v l) (hn0 : 1 ≤ n) (hn1 : n ≤ 40) (ht : 0 ≤ t) (hlen : l.length ≤ 12) :
    Calls Tryz.prog 26 #[.int .i64 n, v, .int .i64 t] w fun e w' => e = .returned (.int .i64 (hold l (t % n))) ∧ Below w.heap.size w w' := by
  rcases hl with ⟨rfl, ao, cap, rfl⟩ | ⟨b, off, cap, rfl, _, hlt, hc⟩
  · exact refwho_nil n ao cap t w
  · exact refwho_some n l b off cap t w hn0 hn1 ht hlen hlt hc
end Go.Proofs.YtajfgmlockjmhafGreatDoor
