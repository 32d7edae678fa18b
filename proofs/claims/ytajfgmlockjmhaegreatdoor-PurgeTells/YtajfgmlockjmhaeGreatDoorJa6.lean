/-
  KRefW, KRefL: joined into one text.
-/
import Derived.Test.YtajfgmlockjmhaeGreatDoorJa2
import Derived.Test.YtajfgmlockjmhaeGreatDoorWRefL
namespace Go.Proofs.YtajfgmlockjmhaeGreatDoor
open Go.RowKit

theorem KTouch.line {M : List Nat} {w w' : World} {b : Nat} {u u' : Value} (h : RTouch w w' b u u') (hb : b ∈ M) : KTouch M w w' := ⟨h.os, h.tape, h.output, h.size, fun k hk hm => h.block k hk (fun e => hm (by rw [e]; exact hb))⟩
/-- A line is as it was where another one was touched. -/
theorem Rl.other {w w' : World} {b1 b' : Nat} {kd dp ls : Int} {xs : List Int} {u : Value} (h : Rl w b1 b' kd dp xs ls u) {M : List Nat} (ht : KTouch M w w') (hb : b' ∉ M) (hM : ∀ m ∈ M, m < b1) : Rl w' b1 b' kd dp xs ls u := by
  have hlt := h.c.lt
  refine ⟨h.c.block (ht.block b' hlt hb), h.rd.block (fun k hk hown => ht.block k hk (fun hm => ?_)) ht.size, fun k hk => ?_, h.lt, Nat.le_trans h.le ht.size⟩
  · have := (h.own k hown).1
    have := hM k hm
    omega
  · have := h.own k hk
    have := ht.size
    omega
/-- From where a line leads, and whereto. -/
def Ft (w : World) (bs : List Nat) (ws : List W4) : Prop := ∀ (i : Nat) b x, bs[i]? = some b → ws[i]? = some x → w.cell? ⟨b, 0, none⟩ = some (.int .i64 x.1) ∧ w.cell? ⟨b, 1, none⟩ = some (.int .i64 x.2.1)
theorem Ft.block {w w' : World} {bs : List Nat} {ws : List W4} (h : Ft w bs ws) (hb : ∀ b ∈ bs, w'.heap[b]? = w.heap[b]?) : Ft w' bs ws := fun i b x hi hx => by
  have hc := fun o => World.cell?_of_block (w := w) (w' := w') (a := ⟨b, o, none⟩) (hb b (List.mem_of_getElem? hi))
  obtain ⟨h0, h1⟩ := h i b x hi hx
  exact ⟨(hc 0).trans h0, (hc 1).trans h1⟩
/-- Where a kernel lies. -/
structure KW where
  kb : Nat
  rb : Nat
  rcap : Nat
  lv : Value
  lr : Nat
  b1 : Nat
  bs : List Nat
  us : List Value
def KW.m (a : KW) : List Nat := a.kb :: a.rb :: a.bs
structure RK (w : World) (base : Nat) (p : PD) (vc vs vw : Value) (k : KD) (a : KW) : Prop where
  c0 : w.cell? ⟨a.kb, 0, none⟩ = some vc
  c1 : w.cell? ⟨a.kb, 1, none⟩ = some (.int .i64 p.ticks)
  c2 : w.cell? ⟨a.kb, 2, none⟩ = some vs
  c3 : w.cell? ⟨a.kb, 3, none⟩ = some vw
  c4 : w.cell? ⟨a.kb, 4, none⟩ = some (.slice (some ⟨a.rb, 0, none⟩) k.rooms.length a.rcap)
  c5 : w.cell? ⟨a.kb, 5, none⟩ = some a.lv
  c6 : w.cell? ⟨a.kb, 6, none⟩ = some (.int .i64 k.time)
  f6 : w.frozen? ⟨a.kb, 6, none⟩ = false
  rooms : ∀ (i : Nat) s, k.rooms[i]? = some s → StC w a.rb (i * 8) s
  rf : ∀ o, w.frozen? ⟨a.rb, o, none⟩ = false
  lv : (k.lines = [] ∧ a.lv = .slice none 0 0) ∨ ∃ cap, a.lv = .slice (some ⟨a.lr, 0, none⟩) k.lines.length cap ∧ k.lines.length ≤ cap
  ptr : ∀ (i : Nat) b, a.bs[i]? = some b → w.cell? ⟨a.lr, i, none⟩ = some (.pointer (some ⟨b, 0, none⟩))
  bl : a.bs.length = k.lines.length
  ul : a.us.length = k.lines.length
  line : ∀ (i : Nat) l b u, k.lines[i]? = some l → a.bs[i]? = some b → a.us[i]? = some u → Rl w a.b1 b l.w.2.2.1 l.w.2.2.2 l.xs l.ls u
  ge : base ≤ a.kb ∧ base ≤ a.rb ∧ ∀ b ∈ a.bs, base ≤ b
  lt : a.kb < a.b1 ∧ a.rb < a.b1 ∧ a.lr < a.b1 ∧ ∀ b ∈ a.bs, b < a.b1
  le : a.b1 ≤ w.heap.size
  apart : a.kb ≠ a.rb ∧ (a.lr ≠ a.kb ∨ k.lines = []) ∧ (a.lr ≠ a.rb ∨ k.lines = []) ∧ ∀ b ∈ a.bs, b ≠ a.kb ∧ b ≠ a.rb ∧ b ≠ a.lr
  two : ∀ (i j : Nat) b b', i < j → a.bs[i]? = some b → a.bs[j]? = some b' → b ≠ b'
  ft : Ft w a.bs p.wires
theorem RK.mge {w : World} {base : Nat} {p : PD} {vc vs vw : Value} {k : KD} {a : KW} (h : RK w base p vc vs vw k a) : ∀ b ∈ a.m, base ≤ b := fun b hb => by
  unfold KW.m at hb
  rcases List.mem_cons.1 hb with rfl | hb
  · exact h.ge.1
  · rcases List.mem_cons.1 hb with rfl | hb
    · exact h.ge.2.1
    · exact h.ge.2.2 b hb
theorem RK.mlt {w : World} {base : Nat} {p : PD} {vc vs vw : Value} {k : KD} {a : KW} (h : RK w base p vc vs vw k a) : ∀ b ∈ a.m, b < a.b1 := fun b hb => by
  unfold KW.m at hb
  rcases List.mem_cons.1 hb with rfl | hb
  · exact h.lt.1
  · rcases List.mem_cons.1 hb with rfl | hb
    · exact h.lt.2.1
    · exact h.lt.2.2.2 b hb
/-- Nothing of the kernel is touched. -/
theorem RK.all {w w' : World} {base : Nat} {p : PD} {vc vs vw : Value} {k : KD} {a : KW} (h : RK w base p vc vs vw k a) (hb : Below w.heap.size w w') : RK w' base p vc vs vw k a := by
  have hk : ∀ b, b < a.b1 → w'.heap[b]? = w.heap[b]? := fun b hlt => hb.block b (Nat.lt_of_lt_of_le hlt h.le)
  have hc := fun o => World.cell?_of_block (w := w) (w' := w') (a := ⟨a.kb, o, none⟩) (hk _ h.lt.1)
  have hf := fun o => World.frozen?_of_block (w := w) (w' := w') (a := ⟨a.kb, o, none⟩) (hk _ h.lt.1)
  have hrf := fun o => World.frozen?_of_block (w := w) (w' := w') (a := ⟨a.rb, o, none⟩) (hk _ h.lt.2.1)
  have hlr := fun o => World.cell?_of_block (w := w) (w' := w') (a := ⟨a.lr, o, none⟩) (hk _ h.lt.2.2.1)
  refine ⟨(hc 0).trans h.c0, (hc 1).trans h.c1, (hc 2).trans h.c2, (hc 3).trans h.c3, (hc 4).trans h.c4, (hc 5).trans h.c5, (hc 6).trans h.c6, (hf 6).trans h.f6, fun i s hs => (h.rooms i s hs).block (hk _ h.lt.2.1), fun o => (hrf o).trans (h.rf o), h.lv, fun i b hi => (hlr i).trans (h.ptr i b hi), h.bl, h.ul, fun i l b u h1 h2 h3 => (h.line i l b u h1 h2 h3).other (M := []) (KTouch.of hb) (by simp) (by simp), h.ge, h.lt, Nat.le_trans h.le hb.size, h.apart, h.two, h.ft.block (fun b hm => hk b (h.lt.2.2.2 b hm))⟩
/-- The time is written. -/
theorem RK.tick {w : World} {base : Nat} {p : PD} {vc vs vw : Value} {k : KD} {a : KW} (h : RK w base p vc vs vw k a) (t : Int) : RK (w.setCell ⟨a.kb, 6, none⟩ (.int .i64 t)) base p vc vs vw ⟨k.rooms, k.lines, t⟩ a := by
  have hne : ∀ b, b ≠ a.kb → (w.setCell ⟨a.kb, 6, none⟩ (.int .i64 t)).heap[b]? = w.heap[b]? := fun b hb => Below.heap_setCell _ _ _ _ hb
  refine ⟨by simpa [go_sem] using h.c0, by simpa [go_sem] using h.c1, by simpa [go_sem] using h.c2, by simpa [go_sem] using h.c3, by simpa [go_sem] using h.c4, by simpa [go_sem] using h.c5, by simp [go_sem, h.c6], by simpa using h.f6, fun i s hs => (h.rooms i s hs).block (hne _ (Ne.symm h.apart.1)), fun o => by simpa using h.rf o, h.lv, fun i b hi => ?_, h.bl, h.ul, fun i l b u h1 h2 h3 => ?_, h.ge, h.lt, by simpa using h.le, h.apart, h.two, h.ft.block (fun b hm => hne b (h.apart.2.2.2 b hm).1)⟩
  · rcases h.apart.2.1 with h1 | h1
    · exact (World.cell?_of_block (w := w) (a := ⟨a.lr, i, none⟩) (hne _ h1)).trans (h.ptr i b hi)
    · have h2 := h.bl
      rw [h1, List.length_nil] at h2
      have := (List.getElem?_eq_some_iff.1 hi).1
      omega
  · have hm := h.apart.2.2.2 b (List.mem_of_getElem? h2)
    exact (h.line i l b u h1 h2 h3).other (KTouch.set (M := [a.kb]) w (by simp) 6 _) (by simpa using hm.1) (by simpa using h.lt.1)
theorem Rl.touch {w w' : World} {b1 b' : Nat} {kd dp ls : Int} {xs : List Int} {u : Value} (h : Rl w b1 b' kd dp xs ls u) {M : List Nat} (ht : KTouch M w w') (hb : b' ∉ M) (hu : ∀ g, u.ownBlock = some g → g ∉ M) : Rl w' b1 b' kd dp xs ls u := by
  have hlt := h.c.lt
  refine ⟨h.c.block (ht.block b' hlt hb), h.rd.block (fun k hk hown => ht.block k hk (hu k hown)) ht.size, fun k hk => ?_, h.lt, Nat.le_trans h.le ht.size⟩
  have := h.own k hk
  have := ht.size
  omega
/-- Where the lines' numbers lie. -/
theorem RK.rows {w : World} {base : Nat} {p : PD} {vc vs vw : Value} {k : KD} {a : KW} (h : RK w base p vc vs vw k a) : ∀ u ∈ a.us, ∀ g, u.ownBlock = some g → a.b1 ≤ g ∧ g < w.heap.size := fun u hu g hg => by
  obtain ⟨i, hi⟩ := List.mem_iff_getElem?.1 hu
  have hlt := (List.getElem?_eq_some_iff.1 hi).1
  have hl : k.lines[i]? = some (k.lines[i]'(by rw [← h.ul]; exact hlt)) := List.getElem?_eq_getElem _
  have hb : a.bs[i]? = some (a.bs[i]'(by rw [h.bl, ← h.ul]; exact hlt)) := List.getElem?_eq_getElem _
  exact (h.line i _ _ u hl hb hi).own g hg
/-- What is touched is none of the kernel's. -/
theorem RK.touch {w w' : World} {base : Nat} {p : PD} {vc vs vw : Value} {k : KD} {a : KW} (h : RK w base p vc vs vw k a) {M : List Nat} (ht : KTouch M w w') (hM : ∀ m ∈ M, a.b1 ≤ m ∧ ∀ u ∈ a.us, u.ownBlock ≠ some m) : RK w' base p vc vs vw k a := by
  have hk : ∀ b, b < a.b1 → w'.heap[b]? = w.heap[b]? := fun b hlt => ht.block b (Nat.lt_of_lt_of_le hlt h.le) (fun hm => by have := (hM b hm).1; omega)
  have hc := fun o => World.cell?_of_block (w := w) (w' := w') (a := ⟨a.kb, o, none⟩) (hk _ h.lt.1)
  have hf := fun o => World.frozen?_of_block (w := w) (w' := w') (a := ⟨a.kb, o, none⟩) (hk _ h.lt.1)
  have hrf := fun o => World.frozen?_of_block (w := w) (w' := w') (a := ⟨a.rb, o, none⟩) (hk _ h.lt.2.1)
  have hlr := fun o => World.cell?_of_block (w := w) (w' := w') (a := ⟨a.lr, o, none⟩) (hk _ h.lt.2.2.1)
  refine ⟨(hc 0).trans h.c0, (hc 1).trans h.c1, (hc 2).trans h.c2, (hc 3).trans h.c3, (hc 4).trans h.c4, (hc 5).trans h.c5, (hc 6).trans h.c6, (hf 6).trans h.f6, fun i s hs => (h.rooms i s hs).block (hk _ h.lt.2.1), fun o => (hrf o).trans (h.rf o), h.lv, fun i b hi => (hlr i).trans (h.ptr i b hi), h.bl, h.ul, fun i l b u h1 h2 h3 => (h.line i l b u h1 h2 h3).touch ht (fun hm => ?_) (fun g hg hm => ?_), h.ge, h.lt, Nat.le_trans h.le ht.size, h.apart, h.two, h.ft.block (fun b hm => hk b (h.lt.2.2.2 b hm))⟩
  · have := (hM b hm).1
    have := h.lt.2.2.2 b (List.mem_of_getElem? h2)
    omega
  · exact (hM g hm).2 u (List.mem_of_getElem? h3) hg
/-- One line is another one. -/
theorem RK.line_set {w w' : World} {base : Nat} {p : PD} {vc vs vw : Value} {k : KD} {a : KW} (h : RK w base p vc vs vw k a) {i b : Nat} {u u' : Value} {l' : LnD} (hb : a.bs[i]? = some b) (hu : a.us[i]? = some u) (ht : RTouch w w' b u u') (hl : Rl w' a.b1 b l'.w.2.2.1 l'.w.2.2.2 l'.xs l'.ls u') : RK w' base p vc vs vw ⟨k.rooms, k.lines.set i l', k.time⟩ { a with us := a.us.set i u' } := by
  have hbm := List.mem_of_getElem? hb
  obtain ⟨n1, n2, n3⟩ := h.apart.2.2.2 b hbm
  have hk : ∀ j, j < a.b1 → j ≠ b → w'.heap[j]? = w.heap[j]? := fun j hj hn => ht.block j (Nat.lt_of_lt_of_le hj h.le) hn
  have hc := fun o => World.cell?_of_block (w := w) (w' := w') (a := ⟨a.kb, o, none⟩) (hk _ h.lt.1 (Ne.symm n1))
  have hf := fun o => World.frozen?_of_block (w := w) (w' := w') (a := ⟨a.kb, o, none⟩) (hk _ h.lt.1 (Ne.symm n1))
  have hrf := fun o => World.frozen?_of_block (w := w) (w' := w') (a := ⟨a.rb, o, none⟩) (hk _ h.lt.2.1 (Ne.symm n2))
  have hlr := fun o => World.cell?_of_block (w := w) (w' := w') (a := ⟨a.lr, o, none⟩) (hk _ h.lt.2.2.1 (Ne.symm n3))
  have hne : k.lines ≠ [] := fun e => by
    have := h.bl
    rw [e, List.length_nil] at this
    have := (List.getElem?_eq_some_iff.1 hb).1
    omega
  refine ⟨(hc 0).trans h.c0, (hc 1).trans h.c1, (hc 2).trans h.c2, (hc 3).trans h.c3, (hc 4).trans h.c4, (hc 5).trans h.c5, (hc 6).trans h.c6, (hf 6).trans h.f6, fun j s hs => (h.rooms j s hs).block (hk _ h.lt.2.1 (Ne.symm n2)), fun o => (hrf o).trans (h.rf o), ?_, fun j b' hj => (hlr j).trans (h.ptr j b' hj), by simp only [List.length_set]; exact h.bl, by simp only [List.length_set]; exact h.ul, fun j l b' u2 h1 h2 h3 => ?_, h.ge, h.lt, Nat.le_trans h.le ht.size, ?_, h.two, fun j b' x hj hx => ?_⟩
  · rcases h.lv with ⟨e, _⟩ | ⟨cap, h1, h2⟩
    · exact absurd e hne
    · exact Or.inr ⟨cap, by simp only [List.length_set]; exact h1, by simp only [List.length_set]; exact h2⟩
  · simp only at h1 h2 h3
    by_cases hij : i = j
    · subst hij
      rw [List.getElem?_set_self (by rw [← h.bl]; exact (List.getElem?_eq_some_iff.1 hb).1)] at h1
      rw [List.getElem?_set_self (by exact (List.getElem?_eq_some_iff.1 hu).1)] at h3
      rw [hb] at h2
      obtain rfl := Option.some.inj h1
      obtain rfl := Option.some.inj h2
      obtain rfl := Option.some.inj h3
      exact hl
    · rw [List.getElem?_set_ne hij] at h1 h3
      have hbb : b' ≠ b := by
        rcases Nat.lt_or_ge i j with hlt | hge
        · exact Ne.symm (h.two i j b b' hlt hb h2)
        · exact h.two j i b' b (by omega) h2 hb
      exact (h.line j l b' u2 h1 h2 h3).other (KTouch.line (M := [b]) ht (by simp)) (by simpa using hbb) (by simpa using h.lt.2.2.2 b hbm)
  · refine ⟨h.apart.1, ?_, ?_, h.apart.2.2.2⟩
    · rcases h.apart.2.1 with e | e
      · exact Or.inl e
      · exact absurd e hne
    · rcases h.apart.2.2.1 with e | e
      · exact Or.inl e
      · exact absurd e hne
  · obtain ⟨q0, q1⟩ := h.ft j b' x hj hx
    by_cases hbb : b' = b
    · subst hbb
      have hlt : b' < w.heap.size := Nat.lt_of_lt_of_le (h.lt.2.2.2 b' hbm) h.le
      exact ⟨(ht.head hlt 0 (by omega)).trans q0, (ht.head hlt 1 (by omega)).trans q1⟩
    · have hcc := fun o => World.cell?_of_block (w := w) (w' := w') (a := ⟨b', o, none⟩) (hk _ (h.lt.2.2.2 b' (List.mem_of_getElem? hj)) hbb)
      exact ⟨(hcc 0).trans q0, (hcc 1).trans q1⟩
/-- Where a line lies. -/
theorem RK.at {w : World} {base : Nat} {p : PD} {vc vs vw : Value} {k : KD} {a : KW} (h : RK w base p vc vs vw k a) {i : Nat} (hi : i < k.lines.length) : ∃ b u cap l, k.lines[i]? = some l ∧ a.bs[i]? = some b ∧ a.us[i]? = some u ∧ a.lv = .slice (some ⟨a.lr, 0, none⟩) k.lines.length cap ∧ k.lines.length ≤ cap ∧ w.cell? ⟨a.lr, i, none⟩ = some (.pointer (some ⟨b, 0, none⟩)) ∧ b ∈ a.m ∧ Rl w a.b1 b l.w.2.2.1 l.w.2.2.2 l.xs l.ls u := by
  have hb : a.bs[i]? = some (a.bs[i]'(by rw [h.bl]; exact hi)) := List.getElem?_eq_getElem _
  have hu : a.us[i]? = some (a.us[i]'(by rw [h.ul]; exact hi)) := List.getElem?_eq_getElem _
  have hl : k.lines[i]? = some k.lines[i] := List.getElem?_eq_getElem hi
  rcases h.lv with ⟨e, _⟩ | ⟨cap, h1, h2⟩
  · rw [e] at hi
    simp at hi
  · exact ⟨_, _, cap, _, hl, hb, hu, h1, h2, h.ptr i _ hb, by simp [KW.m], h.line i _ _ _ hl hb hu⟩
end Go.Proofs.YtajfgmlockjmhaeGreatDoor
namespace Go.Proofs.YtajfgmlockjmhaeGreatDoor
open Go.RowKit

theorem rtake_l (base b : Nat) (l : LnD) (u : Value) (w : World) (hk : l.w.2.2.1 = 1 ∨ l.w.2.2.1 = 2) (hR : Rl w base b l.w.2.2.1 l.w.2.2.2 l.xs l.ls u) :
    Calls Tryz.prog 57 #[.pointer (some ⟨b, 0, none⟩)] w fun e w' => ∃ u', e = .returned (.tuple #[.int .i64 (headL l).1, .bool (headL l).2]) ∧ Rl w' base b (restL l).w.2.2.1 (restL l).w.2.2.2 (restL l).xs (restL l).ls u' ∧ RTouch w w' b u u' := by
  obtain ⟨x, xs, ls⟩ := l
  simp only at hk hR
  cases xs with
  | nil =>
    refine (rtake_none base b _ _ ls u w hR).mono ?_
    rintro e w' ⟨rfl, rfl⟩
    exact ⟨u, rfl, hR, RTouch.refl _ _ _⟩
  | cons n ys =>
    rcases hk with h1 | h2
    · have e2 : restL ⟨x, n :: ys, ls⟩ = ⟨x, n :: ys, ls⟩ := by simp [restL, h1]
      rw [e2]
      rw [h1] at hR
      refine (rtake_sample base b _ n ys ls u w hR).mono ?_
      rintro e w' ⟨rfl, rfl⟩
      exact ⟨u, rfl, by simp only [h1]; exact hR, RTouch.refl _ _ _⟩
    · have e2 : restL ⟨x, n :: ys, ls⟩ = ⟨x, ys, ls⟩ := by simp [restL, h2]
      rw [e2]
      rw [h2] at hR
      refine (rtake_queue base b _ n ys ls u w hR).mono ?_
      rintro e w' ⟨u', rfl, h3, h4⟩
      exact ⟨u', rfl, by simp only [h2]; exact h3, h4⟩
theorem rsend_l (base b : Nat) (l : LnD) (u : Value) (n : Int) (w : World) (hk : l.w.2.2.1 = 1 ∨ l.w.2.2.1 = 2) (hls : 0 ≤ l.ls ∧ l.ls < 1000000000) (hx : l.xs.length ≤ 1000000) (hR : Rl w base b l.w.2.2.1 l.w.2.2.2 l.xs l.ls u) :
    Calls Tryz.prog 59 #[.pointer (some ⟨b, 0, none⟩), .int .i64 n] w fun e w' => ∃ u', e = .returned (.bool (fitL l)) ∧ Rl w' base b (putL l n).w.2.2.1 (putL l n).w.2.2.2 (putL l n).xs (putL l n).ls u' ∧ RTouch w w' b u u' := by
  obtain ⟨x, xs, ls⟩ := l
  simp only at hk hls hx hR
  rcases hk with h1 | h2
  · have e1 : fitL ⟨x, xs, ls⟩ = true := by simp [fitL, h1]
    have e2 : putL ⟨x, xs, ls⟩ n = ⟨x, [n], ls⟩ := by simp [putL, h1]
    rw [e1, e2]
    rw [h1] at hR
    refine (rsend_sample base b _ xs ls u n w hR).mono ?_
    rintro e w' ⟨u', rfl, h3, h4⟩
    exact ⟨u', rfl, by simp only [h1]; exact h3, h4⟩
  · rw [h2] at hR
    by_cases hd : (xs.length : Int) < x.2.2.2
    · have e1 : fitL ⟨x, xs, ls⟩ = true := by simp [fitL, hd]
      have e2 : putL ⟨x, xs, ls⟩ n = ⟨x, xs ++ [n], ls⟩ := by simp [putL, h2, hd]
      rw [e1, e2]
      refine (rsend_room base b _ xs ls u n w hR hd hx).mono ?_
      rintro e w' ⟨u', rfl, h3, h4⟩
      exact ⟨u', rfl, by simp only [h2]; exact h3, h4⟩
    · have e1 : fitL ⟨x, xs, ls⟩ = false := by simp [fitL, h2]; omega
      have e2 : putL ⟨x, xs, ls⟩ n = ⟨x, xs, ls + 1⟩ := by simp [putL, h2, hd]
      rw [e1, e2]
      refine (rsend_full base b _ xs ls u n w hls hR (by omega)).mono ?_
      rintro e w' ⟨rfl, h3, h4⟩
      exact ⟨u, rfl, by simp only [h2]; exact h3, h4⟩
/-- A line of a kernel behind a call on it. -/
theorem RK.line_call {W0 W w' : World} {base : Nat} {p : PD} {vc vs vw : Value} {k : KD} {a : KW} (h0 : RK W0 base p vc vs vw k a) (hb : Below W0.heap.size W0 W) {i b : Nat} {u u' : Value} {l' : LnD} (hbi : a.bs[i]? = some b) (hui : a.us[i]? = some u) (ht : RTouch W w' b u u') (hl : Rl w' a.b1 b l'.w.2.2.1 l'.w.2.2.2 l'.xs l'.ls u') {Pd : Nat → Prop} (hB : ∀ u ∈ a.us, ∀ g, u.ownBlock = some g → Pd g) :
    RK w' base p vc vs vw ⟨k.rooms, k.lines.set i l', k.time⟩ { a with us := a.us.set i u' } ∧ KTouch a.m W0 w' ∧ ∀ v ∈ a.us.set i u', ∀ g, v.ownBlock = some g → Pd g ∨ W0.heap.size ≤ g := by
  have hm : b ∈ a.m := by simp [KW.m, List.mem_of_getElem? hbi]
  refine ⟨(h0.all hb).line_set hbi hui ht hl, (KTouch.of hb).trans (KTouch.line ht hm), fun v hv g hg => ?_⟩
  rcases List.mem_or_eq_of_mem_set hv with h1 | h1
  · exact Or.inl (hB v h1 g hg)
  · subst h1
    rcases ht.new g hg with h2 | h2
    · exact Or.inl (hB u (List.mem_of_getElem? hui) g h2)
    · exact Or.inr (Nat.le_trans hb.size h2)
/-- One room is another one. -/
theorem RK.room_set {w : World} {base : Nat} {p : PD} {vc vs vw : Value} {k : KD} {a : KW} (h : RK w base p vc vs vw k a) {r : Nat} {s : St} (hr : k.rooms[r]? = some s) (s' : St) : RK (setSt w a.rb (r * 8) s') base p vc vs vw ⟨k.rooms.set r s', k.lines, k.time⟩ a := by
  have ht : KTouch [a.rb] w (setSt w a.rb (r * 8) s') := setSt_touch w (by simp) _ _
  have hlen := (List.getElem?_eq_some_iff.1 hr).1
  have hk : ∀ j, j < a.b1 → j ≠ a.rb → (setSt w a.rb (r * 8) s').heap[j]? = w.heap[j]? := fun j hj hn => ht.block j (Nat.lt_of_lt_of_le hj h.le) (by simpa using hn)
  have hc := fun o => World.cell?_of_block (w := w) (w' := setSt w a.rb (r * 8) s') (a := ⟨a.kb, o, none⟩) (hk _ h.lt.1 h.apart.1)
  have hf := fun o => World.frozen?_of_block (w := w) (w' := setSt w a.rb (r * 8) s') (a := ⟨a.kb, o, none⟩) (hk _ h.lt.1 h.apart.1)
  refine ⟨(hc 0).trans h.c0, (hc 1).trans h.c1, (hc 2).trans h.c2, (hc 3).trans h.c3, by simp only [List.length_set]; exact (hc 4).trans h.c4, (hc 5).trans h.c5, (hc 6).trans h.c6, (hf 6).trans h.f6, fun j s2 hs => ?_, fun o => (setSt_frozen _ _ _ _ _).trans (h.rf o), h.lv, fun j b' hj => ?_, h.bl, h.ul, fun j l b' u2 h1 h2 h3 => ?_, h.ge, h.lt, Nat.le_trans h.le ht.size, h.apart, h.two, h.ft.block (fun b hm => hk b (h.lt.2.2.2 b hm) (h.apart.2.2.2 b hm).2.1)⟩
  · simp only at hs
    by_cases hij : r = j
    · subst hij
      rw [List.getElem?_set_self hlen] at hs
      obtain rfl := Option.some.inj hs
      exact setSt_at (h.rooms r s hr)
    · rw [List.getElem?_set_ne hij] at hs
      exact (h.rooms j s2 hs).off (fun i h1 h2 => setSt_off (by omega))
  · rcases h.apart.2.2.1 with h1 | h1
    · exact (World.cell?_of_block (w := w) (a := ⟨a.lr, j, none⟩) (hk _ h.lt.2.2.1 h1)).trans (h.ptr j b' hj)
    · have h2 := h.bl
      rw [h1, List.length_nil] at h2
      have := (List.getElem?_eq_some_iff.1 hj).1
      omega
  · have hm := h.apart.2.2.2 b' (List.mem_of_getElem? h2)
    exact (h.line j l b' u2 h1 h2 h3).other ht (by simpa using hm.2.1) (by simpa using h.lt.2.1)
end Go.Proofs.YtajfgmlockjmhaeGreatDoor
