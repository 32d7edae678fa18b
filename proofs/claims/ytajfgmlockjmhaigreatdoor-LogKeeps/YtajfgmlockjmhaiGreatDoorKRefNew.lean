/-
  frameref1.NewKernel: the document's kernel of a plan, new.
-/
import Derived.Test.YtajfgmlockjmhaiGreatDoorJk7
import Derived.Test.YtajfgmlockjmhaiGreatDoorJk1
import Derived.Test.YtajfgmlockjmhaiGreatDoorJk2
import Derived.Laws.MakeOwn
import Derived.Deep.CutRange
import Derived.Deep.RegionWith
import Derived.BigQuiet
import Derived.RangeFuncNested
namespace Go.Proofs.YtajfgmlockjmhaiGreatDoor
open Go.RowKit

/-- A line that is new. -/
def LB (W : World) (b : Nat) (x : W4) : Prop := W.heap[b]? = some (.cells #[.int .i64 x.1, .int .i64 x.2.1, .int .i64 x.2.2.1, .int .i64 x.2.2.2, .slice none 0 0, .int .i64 0] 163 (0, 0))
theorem LB.rl {W : World} {b base : Nat} {x : W4} (h : LB W b x) (hb : b < base) (hle : base ≤ W.heap.size) : Rl W base b x.2.2.1 x.2.2.2 [] 0 (.slice none 0 0) := by
  have e : W.heap[b]? = _ := h
  refine ⟨⟨?_, ?_, ?_, ?_, ?_, ?_⟩, Or.inl ⟨rfl, _, _, rfl⟩, fun k hk => by simp [Value.ownBlock] at hk, hb, hle⟩ <;> simp [World.cell?, World.frozen?, e]
/-- The rooms' row, new. -/
def RB (W : World) (b n : Nat) : Prop := W.heap[b]? = some (.cells (madeCells #[.int .i64 0, .int .i64 0, .int .i64 0, .int .i64 0, .int .i64 0, .int .i64 0, .int .i64 0, .bool false] (n * 8)) 73 (0, 0))
theorem RB.st {W : World} {b n i : Nat} (h : RB W b n) (hi : i < n) : StC W b (i * 8) stNew := by
  have e : W.heap[b]? = _ := h
  have hc : ∀ j, j < 8 → W.cell? ⟨b, i * 8 + j, none⟩ = some (#[Value.int .i64 0, .int .i64 0, .int .i64 0, .int .i64 0, .int .i64 0, .int .i64 0, .int .i64 0, .bool false][j]!) := fun j hj => by
    have h1 : i * 8 + j < n * 8 := by omega
    have h2 : (i * 8 + j) % 8 = j := by omega
    simp [World.cell?, e, madeCells, h1, h2]
  exact ⟨hc 0 (by omega), hc 1 (by omega), hc 2 (by omega), hc 3 (by omega), hc 4 (by omega), hc 5 (by omega), hc 6 (by omega), hc 7 (by omega)⟩
theorem RB.free {W : World} {b n : Nat} (h : RB W b n) (o : Nat) : W.frozen? ⟨b, o, none⟩ = false := by
  have e : W.heap[b]? = _ := h
  simp [World.frozen?, e]
/-- The kernel's block. -/
def KB (W : World) (b : Nat) (vc : Value) (t : Int) (vs vw : Value) (rb n : Nat) (lv : Value) : Prop := W.heap[b]? = some (.cells #[vc, .int .i64 t, vs, vw, .slice (some ⟨rb, 0, none⟩) n n, lv, .int .i64 0] 66 (0, 0))
theorem KB.cs {W : World} {b : Nat} {vc vs vw lv : Value} {t : Int} {rb n : Nat} (h : KB W b vc t vs vw rb n lv) : W.cell? ⟨b, 0, none⟩ = some vc ∧ W.cell? ⟨b, 1, none⟩ = some (.int .i64 t) ∧ W.cell? ⟨b, 2, none⟩ = some vs ∧ W.cell? ⟨b, 3, none⟩ = some vw ∧ W.cell? ⟨b, 4, none⟩ = some (.slice (some ⟨rb, 0, none⟩) n n) ∧ W.cell? ⟨b, 5, none⟩ = some lv ∧ W.cell? ⟨b, 6, none⟩ = some (.int .i64 0) ∧ W.frozen? ⟨b, 5, none⟩ = false ∧ W.frozen? ⟨b, 6, none⟩ = false := by
  have e : W.heap[b]? = _ := h
  simp [World.cell?, World.frozen?, e]
theorem KB.set {W : World} {b : Nat} {vc vs vw lv : Value} {t : Int} {rb n : Nat} (h : KB W b vc t vs vw rb n lv) (lv' : Value) : KB (W.setCell ⟨b, 5, none⟩ lv') b vc t vs vw rb n lv' := by
  have e : W.heap[b]? = _ := h
  unfold KB
  simp [World.setCell, Array.getElem?_modify, e]
/-- A pointer to a line. -/
def lnP (b : Nat) : Value := .pointer (some ⟨b, 0, none⟩)
/-- A kernel that is being made: so many lines are there. -/
structure NK (w W : World) (p : PD) (vc vs vw lv : Value) (bs : List Nat) : Prop where
  bx : Bx w W vc p.ticks vs vw
  rb : RB W (w.heap.size + 1) p.code.length
  kb : KB W (w.heap.size + 2) vc p.ticks vs vw (w.heap.size + 1) p.code.length lv
  row : W.ownsRow (w.heap.size + 3) 161 1 lv bs.length (bs.map lnP)
  line : ∀ (i : Nat) b x, bs[i]? = some b → p.wires[i]? = some x → LB W b x
  ge : ∀ b ∈ bs, w.heap.size + 3 ≤ b ∧ b < W.heap.size
  two : ∀ (i j : Nat) b b', i < j → bs[i]? = some b → bs[j]? = some b' → b < b'
  size : w.heap.size + 3 ≤ W.heap.size
  len : bs.length ≤ p.wires.length
theorem infoLn : (Tryz.prog.info? 161).map (fun i => (i.zero, i.size, i.bytes)) = some (some (.pointer none), 1, 8) := by kernel_rfl
/-- No line is there yet. -/
theorem NK.first {w W0 : World} {p : PD} {vc vs vw : Value} (hx : Bx w W0 vc p.ticks vs vw) (hs : W0.heap.size = w.heap.size + 1) :
    NK w ((W0.alloc (.cells (madeCells #[.int .i64 0, .int .i64 0, .int .i64 0, .int .i64 0, .int .i64 0, .int .i64 0, .int .i64 0, .bool false] (p.code.length * 8)) 73)).alloc (.cells #[vc, .int .i64 p.ticks, vs, vw, .slice (some ⟨w.heap.size + 1, 0, none⟩) p.code.length p.code.length, .slice none 0 0, .int .i64 0] 66)).drew p vc vs vw (.slice none 0 0) [] := by
  refine ⟨((Below.alloc hx (by omega) _).alloc (by simp; omega) _).drew, ?_, ?_, ⟨rfl, Or.inl ⟨rfl, rfl⟩⟩, fun i b x hi => (by simp at hi), fun b hb => (by cases hb), fun i j b b' _ hi => (by simp at hi), (by simp; omega), Nat.zero_le _⟩
  · show ((W0.alloc _).alloc _).heap[w.heap.size + 1]? = _
    rw [Below.heap_alloc _ _ _ (by simp; omega), ← hs]
    exact World.alloc_heap_new W0 _
  · show ((W0.alloc _).alloc _).heap[w.heap.size + 2]? = _
    have h1 := World.alloc_heap_new (W0.alloc (.cells (madeCells #[.int .i64 0, .int .i64 0, .int .i64 0, .int .i64 0, .int .i64 0, .int .i64 0, .int .i64 0, .bool false] (p.code.length * 8)) 73)) (.cells #[vc, .int .i64 p.ticks, vs, vw, .slice (some ⟨w.heap.size + 1, 0, none⟩) p.code.length p.code.length, .slice none 0 0, .int .i64 0] 66)
    rw [World.size_alloc, hs] at h1
    exact h1
/-- The row of the lines is none of the lines. -/
theorem NK.row_ne {w W : World} {p : PD} {vc vs vw lv : Value} {bs : List Nat} (h : NK w W p vc vs vw lv bs) : ∀ b ∈ bs, some b ≠ lv.ownBlock := fun b hb e => by
  obtain ⟨i, hi⟩ := List.mem_iff_getElem?.1 hb
  have hlt := (List.getElem?_eq_some_iff.1 hi).1
  have hx : p.wires[i]? = some (p.wires[i]'(Nat.lt_of_lt_of_le hlt h.len)) := List.getElem?_eq_getElem _
  have h1 : W.heap[b]? = _ := h.line i b _ hi hx
  rcases h.row.2 with ⟨h2, _⟩ | ⟨g, cap, cur, h2, _, h3, _⟩
  · rw [h2] at e
    cases e
  · rw [h2] at e
    simp only [Value.ownBlock, Option.some.injEq] at e
    subst e
    rw [h1] at h3
    injection h3 with h3
    injection h3 with _ h4
    exact absurd h4 (by decide)
/-- One line more. -/
theorem NK.more {w W wa : World} {p : PD} {vc vs vw lv lv' : Value} {bs : List Nat} {x : W4} (h : NK w W p vc vs vw lv bs) (hx : p.wires[bs.length]? = some x) {nd : Nat}
    (hg : (((W.drewN nd).alloc (.cells #[.int .i64 x.1, .int .i64 x.2.1, .int .i64 x.2.2.1, .int .i64 x.2.2.2, .slice none 0 0, .int .i64 0] 163)).alloc (.cells #[lnP W.heap.size] 161)).grownBy wa lv.ownBlock) (hown : wa.ownsRow (w.heap.size + 3) 161 1 lv' (bs.length + 1) (bs.map lnP ++ [lnP W.heap.size])) (hnew : ∀ k, lv'.ownBlock = some k → lv.ownBlock = some k ∨ W.heap.size + 2 ≤ k) :
    NK w (wa.setCell ⟨w.heap.size + 2, 5, none⟩ lv') p vc vs vw lv' (bs ++ [W.heap.size]) := by
  have hbl : Below W.heap.size W (((W.drewN nd).alloc (.cells #[.int .i64 x.1, .int .i64 x.2.1, .int .i64 x.2.2.1, .int .i64 x.2.2.2, .slice none 0 0, .int .i64 0] 163)).alloc (.cells #[lnP W.heap.size] 161)) := ((below_dN (Below.refl _ _) nd).alloc (by simp) _).alloc (by simp) _
  have hsz : (((W.drewN nd).alloc (.cells #[.int .i64 x.1, .int .i64 x.2.1, .int .i64 x.2.2.1, .int .i64 x.2.2.2, .slice none 0 0, .int .i64 0] 163)).alloc (.cells #[lnP W.heap.size] 161)).heap.size = W.heap.size + 2 := by simp
  have hrow : ∀ k, lv.ownBlock = some k → w.heap.size + 3 ≤ k ∧ k < W.heap.size := fun k hk => by
    rcases h.row.2 with ⟨h2, _⟩ | ⟨g, cap, cur, h2, h3, h4, _⟩
    · rw [h2] at hk
      cases hk
    · rw [h2] at hk
      simp only [Value.ownBlock, Option.some.injEq] at hk
      subst hk
      exact ⟨h3, (Array.getElem?_eq_some_iff.1 h4).1⟩
  have hblk : ∀ k, k < W.heap.size → some k ≠ lv.ownBlock → wa.heap[k]? = W.heap[k]? := fun k hk hn => (hg.block k (by rw [hsz]; omega) hn).trans (hbl.block k hk)
  have hlow : ∀ k, k < w.heap.size + 3 → wa.heap[k]? = W.heap[k]? := fun k hk => hblk k (by have := h.size; omega) (fun e => by have := (hrow k e.symm).1; omega)
  have hset : ∀ k, k ≠ w.heap.size + 2 → (wa.setCell ⟨w.heap.size + 2, 5, none⟩ lv').heap[k]? = wa.heap[k]? := fun k hk => Below.heap_setCell _ _ _ _ hk
  have hwa : W.heap.size + 2 ≤ wa.heap.size := by have := hg.size; rw [hsz] at this; exact this
  have hsz2 : (wa.setCell ⟨w.heap.size + 2, 5, none⟩ lv').heap.size = wa.heap.size := by simp
  have hnl : some W.heap.size ≠ lv.ownBlock := fun e => by have := (hrow _ e.symm).2; omega
  have hline : LB wa W.heap.size x := by
    have h1 := hg.block W.heap.size (by rw [hsz]; omega) hnl
    refine h1.trans ?_
    rw [Below.heap_alloc _ _ _ (by simp)]
    have h2 := World.alloc_heap_new (W.drewN nd) (.cells #[.int .i64 x.1, .int .i64 x.2.1, .int .i64 x.2.2.1, .int .i64 x.2.2.2, .slice none 0 0, .int .i64 0] 163)
    rw [show (W.drewN nd).heap.size = W.heap.size by simp] at h2
    exact h2
  refine ⟨?_, (hset _ (by omega)).trans ((hlow _ (by omega)).trans h.rb), KB.set ((hlow _ (by omega)).trans h.kb) _, ?_, fun i b y hi hy => ?_, fun b hb => ?_, fun i j b b' hij hi hj => ?_, by rw [hsz2]; have := h.size; omega, ?_⟩
  · have hb1 : Below (w.heap.size + 1) W wa := ⟨hg.os.trans hbl.os, hg.tape.trans hbl.tape, hg.output.trans hbl.output, by omega, fun k hk => hlow k (by omega)⟩
    exact (Below.trans h.bx hb1).setCell (p := ⟨w.heap.size + 2, 5, none⟩) (by simp) _
  · rw [List.map_append, List.length_append]
    exact own_block hown (fun k hk => hset k (fun e => by
      rcases hnew k hk with h1 | h1
      · have := (hrow k h1).1
        omega
      · have := h.size
        omega))
  · by_cases hil : i < bs.length
    · rw [List.getElem?_append_left hil] at hi
      have hb := List.mem_of_getElem? hi
      have hge := h.ge b hb
      exact (hset b (by omega)).trans ((hblk b hge.2 (h.row_ne b hb)).trans (h.line i b y hi hy))
    · have hlt := (List.getElem?_eq_some_iff.1 hi).1
      rw [List.length_append, List.length_singleton] at hlt
      obtain rfl : i = bs.length := by omega
      rw [List.getElem?_append_right (Nat.le_refl _), Nat.sub_self] at hi
      simp only [List.getElem?_cons_zero, Option.some.injEq] at hi
      subst hi
      rw [hx] at hy
      obtain rfl := Option.some.inj hy
      exact (hset _ (by have := h.size; omega)).trans hline
  · rcases List.mem_append.1 hb with hb | hb
    · have := h.ge b hb
      rw [hsz2]
      omega
    · rw [List.mem_singleton] at hb
      subst hb
      rw [hsz2]
      have := h.size
      omega
  · by_cases hjl : j < bs.length
    · rw [List.getElem?_append_left hjl] at hj
      rw [List.getElem?_append_left (by omega)] at hi
      exact h.two i j b b' hij hi hj
    · have hlt := (List.getElem?_eq_some_iff.1 hj).1
      rw [List.length_append, List.length_singleton] at hlt
      obtain rfl : j = bs.length := by omega
      rw [List.getElem?_append_right (Nat.le_refl _), Nat.sub_self] at hj
      simp only [List.getElem?_cons_zero, Option.some.injEq] at hj
      subst hj
      rw [List.getElem?_append_left (by omega)] at hi
      exact (h.ge b (List.mem_of_getElem? hi)).2
  · rw [List.length_append, List.length_singleton]
    exact (List.getElem?_eq_some_iff.1 hx).1
/-- All lines are there: a kernel. -/
theorem NK.done {w W : World} {p : PD} {vc vs vw lv : Value} {bs : List Nat} (h : NK w W p vc vs vw lv bs) (hl : bs.length = p.wires.length) :
    ∃ a : KW, a.kb = w.heap.size + 2 ∧ w.heap.size ≤ a.lr ∧ RK W w.heap.size p vc vs vw (newK p) a := by
  obtain ⟨c0, c1, c2, c3, c4, c5, c6, f5, f6⟩ := h.kb.cs
  have hlv : (p.wires = [] ∧ lv = .slice none 0 0) ∨ ∃ g cap, lv = .slice (some ⟨g, 0, none⟩) p.wires.length cap ∧ p.wires.length ≤ cap ∧ w.heap.size + 3 ≤ g ∧ g < W.heap.size ∧ (∀ (i : Nat) b, bs[i]? = some b → W.cell? ⟨g, i, none⟩ = some (lnP b)) := by
    rcases h.row.2 with ⟨h2, h3⟩ | ⟨g, cap, cur, h2, h3, h4, h5, h6, h7, h8⟩
    · exact Or.inl ⟨List.length_eq_zero_iff.1 (by omega), h2⟩
    · refine Or.inr ⟨g, cap, by rw [h2, hl], by omega, h3, (Array.getElem?_eq_some_iff.1 h4).1, fun i b hi => ?_⟩
      have := h.row
      rw [h2] at this
      exact (own_cap this).2.2.2.2.1 i _ (by simp [hi])
  have hne : ∀ b ∈ bs, some b ≠ lv.ownBlock := h.row_ne
  obtain ⟨lr, hlr0, hlr1, hlr2, hlr3, hlr4⟩ : ∃ lr, w.heap.size ≤ lr ∧ ((p.wires = [] ∧ lv = .slice none 0 0) ∨ ∃ cap, lv = .slice (some ⟨lr, 0, none⟩) p.wires.length cap ∧ p.wires.length ≤ cap) ∧ (∀ (i : Nat) b, bs[i]? = some b → W.cell? ⟨lr, i, none⟩ = some (lnP b)) ∧ lr < W.heap.size ∧ ((w.heap.size + 3 ≤ lr ∧ some lr = lv.ownBlock) ∨ p.wires = []) := by
    rcases hlv with ⟨h1, h2⟩ | ⟨g, cap, h1, h2, h3, h4, h5⟩
    · have hb0 : bs = [] := List.length_eq_zero_iff.1 (by rw [hl, h1]; rfl)
      subst hb0
      exact ⟨w.heap.size, Nat.le_refl _, Or.inl ⟨h1, h2⟩, fun i b hi => by simp at hi, by have := h.size; omega, Or.inr h1⟩
    · exact ⟨g, by omega, Or.inr ⟨cap, h1, h2⟩, h5, h4, Or.inl ⟨h3, by rw [h1]; rfl⟩⟩
  refine ⟨⟨w.heap.size + 2, w.heap.size + 1, p.code.length, lv, lr, W.heap.size, bs, bs.map fun _ => .slice none 0 0⟩, rfl, hlr0, c0, c1, c2, c3, by simpa [newK] using c4, c5, c6, f6, fun i s hs => ?_, fun o => h.rb.free o, ?_, fun i b hi => hlr2 i b hi, by simpa [newK] using hl, by simpa [newK] using hl, fun i l b u h1 h2 h3 => ?_, ⟨by show _ ≤ _; simp, by show _ ≤ _; simp, fun b hb => ?_⟩, ⟨?_, ?_, hlr3, fun b hb => (h.ge b hb).2⟩, Nat.le_refl _, ⟨by show _ ≠ _; simp, ?_, ?_, fun b hb => ?_⟩, fun i j b b' hij hi hj => Nat.ne_of_lt (h.two i j b b' hij hi hj), fun i b x hi hx => ?_⟩
  · have hlt := (List.getElem?_eq_some_iff.1 hs).1
    simp only [newK, List.length_map] at hlt
    simp only [newK, List.getElem?_map, List.getElem?_eq_getElem hlt, Option.map_some, Option.some.injEq] at hs
    subst hs
    exact h.rb.st hlt
  · rcases hlr1 with ⟨h1, h2⟩ | ⟨cap, h1, h2⟩
    · exact Or.inl ⟨by simp [newK, h1], h2⟩
    · exact Or.inr ⟨cap, by simpa [newK] using h1, by simpa [newK] using h2⟩
  · simp only [newK, List.getElem?_map, Option.map_eq_some_iff] at h1
    obtain ⟨x, hx, rfl⟩ := h1
    simp only [List.getElem?_map, Option.map_eq_some_iff] at h3
    obtain ⟨_, _, rfl⟩ := h3
    exact (h.line i b x h2 hx).rl (h.ge b (List.mem_of_getElem? h2)).2 (Nat.le_refl _)
  · have := (h.ge b hb).1
    omega
  · show w.heap.size + 2 < W.heap.size
    have := h.size
    omega
  · show w.heap.size + 1 < W.heap.size
    have := h.size
    omega
  · rcases hlr4 with ⟨h1, _⟩ | h1
    · exact Or.inl (by show lr ≠ w.heap.size + 2; omega)
    · exact Or.inr (by simp [newK, h1])
  · rcases hlr4 with ⟨h1, _⟩ | h1
    · exact Or.inl (by show lr ≠ w.heap.size + 1; omega)
    · exact Or.inr (by simp [newK, h1])
  · have h1 := (h.ge b hb).1
    refine ⟨by show b ≠ w.heap.size + 2; omega, by show b ≠ w.heap.size + 1; omega, fun e => ?_⟩
    rcases hlr4 with ⟨_, h2⟩ | h2
    · exact hne b hb (by rw [e]; exact h2)
    · have hb0 : bs = [] := List.length_eq_zero_iff.1 (by rw [hl, h2]; rfl)
      rw [hb0] at hb
      cases hb
  · have e : W.heap[b]? = _ := h.line i b x hi hx
    simp [World.cell?, e]
theorem made_state (n : Nat) (hn : n ≤ 5) (W : World) : (Instr.makeSlice 63 (.int .i64 n) (.int .i64 n)).run Tryz.prog W = .ok (.slice (some ⟨W.heap.size, 0, none⟩) n n) (W.alloc (.cells (madeCells #[.int .i64 0, .int .i64 0, .int .i64 0, .int .i64 0, .int .i64 0, .int .i64 0, .int .i64 0, .bool false] (n * 8)) 73)) := by
  obtain ⟨i, hi, hz⟩ : ∃ i, Tryz.prog.info? 73 = some i ∧ (i.zero, i.size, i.bytes) = (some (.agg #[.int .i64 0, .int .i64 0, .int .i64 0, .int .i64 0, .int .i64 0, .int .i64 0, .int .i64 0, .bool false]), 8, 64) := by
    have : (Tryz.prog.info? 73).map (fun i => (i.zero, i.size, i.bytes)) = some (some (.agg #[.int .i64 0, .int .i64 0, .int .i64 0, .int .i64 0, .int .i64 0, .int .i64 0, .int .i64 0, .bool false]), 8, 64) := by kernel_rfl
    cases hq : Tryz.prog.info? 73 with
    | none => rw [hq] at this; cases this
    | some i => rw [hq] at this; exact ⟨i, rfl, Option.some.inj this⟩
  simp only [Prod.mk.injEq] at hz
  obtain ⟨hz1, hz2, hz3⟩ := hz
  have := run_make (P := Tryz.prog) W 63 73 i _ (by kernel_rfl) hi hz1 .i64 .i64 n n (by omega) (Int.le_refl _) (by rw [hz3]; omega) (by omega)
  rw [hz2] at this
  simpa [Value.cells] using this
set_option maxRecDepth 1000000 in
set_option maxHeartbeats 8000000 in
theorem newkernel_loose (p : PD) (vc vs vw : Value) (w : World) (hc5 : p.code.length ≤ 5) (hw12 : p.wires.length ≤ 12) (hPc : Cds w vc p.code) (hPw : Wrs w vw p.wires) :
    Calls Tryz.prog 58 #[plV vc p.ticks vs vw] w fun e w' => ∃ a : KW, e = .returned (.pointer (some ⟨a.kb, 0, none⟩)) ∧ w.heap.size ≤ a.lr ∧ RK w' w.heap.size p vc vs vw (newK p) a ∧ Below w.heap.size w w' := by
  obtain ⟨ca, cc, rfl⟩ := hPc.form
  obtain ⟨wa, wc', rfl⟩ := hPw.form
  have hx0 := Bx.first w (.slice ca p.code.length cc) p.ticks vs (.slice wa p.wires.length wc')
  have hmk := made_state p.code.length hc5
  have HP : Hid (Wrs w (.slice wa p.wires.length wc') p.wires) := hPw
  clear hPc hPw
  obtain ⟨k0, k1, k2, k3⟩ : (w.alloc (.cells #[.slice ca p.code.length cc, .int .i64 p.ticks, vs, .slice wa p.wires.length wc'] 26)).cell? ⟨w.heap.size, 0, none⟩ = some (.slice ca p.code.length cc) ∧ (w.alloc (.cells #[.slice ca p.code.length cc, .int .i64 p.ticks, vs, .slice wa p.wires.length wc'] 26)).cell? ⟨w.heap.size, 1, none⟩ = some (.int .i64 p.ticks) ∧ (w.alloc (.cells #[.slice ca p.code.length cc, .int .i64 p.ticks, vs, .slice wa p.wires.length wc'] 26)).cell? ⟨w.heap.size, 2, none⟩ = some vs ∧ (w.alloc (.cells #[.slice ca p.code.length cc, .int .i64 p.ticks, vs, .slice wa p.wires.length wc'] 26)).cell? ⟨w.heap.size, 3, none⟩ = some (.slice wa p.wires.length wc') := ⟨hx0.c0, hx0.c1, hx0.c2, hx0.c3⟩
  unfold plV
  go_enter Tryz.func58, Tryz.ntmps58
  go_upto_region 1 with fail
  go_cut [3] from 5 to 11 (fun s3 wx => s3 = .pointer (some ⟨w.heap.size + 2, 0, none⟩) ∧ NK w wx p (.slice ca p.code.length cc) vs (.slice wa p.wires.length wc') (.slice none 0 0) [])
  case first =>
    generalize hW0 : w.alloc (.cells #[.slice ca p.code.length cc, .int .i64 p.ticks, vs, .slice wa p.wires.length wc'] 26) = W0 at hx0 k0 k1 k2 k3 ⊢
    have hs0 : W0.heap.size = w.heap.size + 1 := by rw [← hW0]; simp
    clear hW0
    have hne0 : W0.heap.size ≠ w.heap.size := by omega
    go_region_held3 (fun w' => w'.cell? ⟨w.heap.size, 0, none⟩ = some (.slice ca p.code.length cc) ∧ w'.cell? ⟨w.heap.size, 1, none⟩ = some (.int .i64 p.ticks) ∧ w'.cell? ⟨w.heap.size, 2, none⟩ = some vs ∧ w'.cell? ⟨w.heap.size, 3, none⟩ = some (.slice wa p.wires.length wc'))
      (first | exact ⟨k0, k1, k2, k3⟩ | go_keep)
      (fail)
    go_wp2_with fail
    go_meet
    case rel => exact ⟨rfl, NK.first hx0 hs0⟩
  case rest =>
  obtain ⟨rfl, hnk⟩ := hcut
  clear hmk hx0 k0 k1 k2 k3
  go_wp2
  go_loopw [4] (fun i wr => ∃ lv bs, i = .int .i64 (bs.length : Nat) ∧ NK w wr p (.slice ca p.code.length cc) vs (.slice wa p.wires.length wc') lv bs) (fun i _ => p.wires.length - (intOf i).toNat)
  case atStart => exact ⟨_, [], rfl, hnk⟩
  case round =>
    clear hnk
    obtain ⟨lv, bs, rfl, hnk⟩ := hrel
    have hlen := hnk.len
    have b3 := hnk.bx.c3
    obtain ⟨c0, c1, c2, c3, c4, c5, c6, f5, f6⟩ := hnk.kb.cs
    clear c0 c1 c2 c3 c4 c6 f6
    by_cases hkl : bs.length < p.wires.length
    · have hki : (bs.length : Int) < (p.wires.length : Int) := by omega
      obtain ⟨wb, wo, x1, x2, x3, x4, rfl, hwlt, hy, d0, d1, d2, d3⟩ := HP.out.at hkl
      have hbel := hnk.bx.below
      replace d0 := (hbel.cell (p := ⟨wb, _, none⟩) hwlt).trans d0
      replace d1 := (hbel.cell (p := ⟨wb, _, none⟩) hwlt).trans d1
      replace d2 := (hbel.cell (p := ⟨wb, _, none⟩) hwlt).trans d2
      replace d3 := (hbel.cell (p := ⟨wb, _, none⟩) hwlt).trans d3
      have HY : Hid (p.wires[bs.length]? = some (x1, x2, x3, x4)) := hy
      have hsz := hnk.size
      clear hy hbel
      have sdr : wr.drew.cell? ⟨w.heap.size + 2, 5, none⟩ = some lv ∧ wr.drew.cell? ⟨w.heap.size, 3, none⟩ = some (.slice (some ⟨wb, wo, none⟩) p.wires.length wc') ∧ wr.drew.cell? ⟨wb, wo + bs.length * 4, none⟩ = some (.int .i64 x1) ∧ wr.drew.cell? ⟨wb, wo + bs.length * 4 + 1, none⟩ = some (.int .i64 x2) ∧ wr.drew.cell? ⟨wb, wo + bs.length * 4 + 2, none⟩ = some (.int .i64 x3) ∧ wr.drew.cell? ⟨wb, wo + bs.length * 4 + 3, none⟩ = some (.int .i64 x4) := ⟨c5, b3, d0, d1, d2, d3⟩
      have bl1 : Below wr.heap.size wr (wr.drew.alloc (.cells #[.int .i64 x1, .int .i64 x2, .int .i64 x3, .int .i64 x4, .slice none 0 0, .int .i64 0] 163)) := ((Below.refl _ wr).drew).alloc (by simp) _
      have bl2 : Below wr.heap.size wr ((wr.drew.alloc (.cells #[.int .i64 x1, .int .i64 x2, .int .i64 x3, .int .i64 x4, .slice none 0 0, .int .i64 0] 163)).alloc (.cells #[lnP wr.heap.size] 161)) := bl1.alloc (by simp) _
      have sof : ∀ W : World, (∀ k, k < wr.heap.size → some k ≠ lv.ownBlock → W.heap[k]? = wr.heap[k]?) → W.cell? ⟨w.heap.size + 2, 5, none⟩ = some lv ∧ W.cell? ⟨w.heap.size, 3, none⟩ = some (.slice (some ⟨wb, wo, none⟩) p.wires.length wc') ∧ W.cell? ⟨wb, wo + bs.length * 4, none⟩ = some (.int .i64 x1) ∧ W.cell? ⟨wb, wo + bs.length * 4 + 1, none⟩ = some (.int .i64 x2) ∧ W.cell? ⟨wb, wo + bs.length * 4 + 2, none⟩ = some (.int .i64 x3) ∧ W.cell? ⟨wb, wo + bs.length * 4 + 3, none⟩ = some (.int .i64 x4) := fun W hk => by
        have hrow : ∀ k, lv.ownBlock = some k → w.heap.size + 3 ≤ k := fun k hk => by
          rcases hnk.row.2 with ⟨h2, _⟩ | ⟨g, cap, cur, h2, h3, _⟩
          · rw [h2] at hk; cases hk
          · rw [h2] at hk; simp only [Value.ownBlock, Option.some.injEq] at hk; subst hk; exact h3
        have hc := fun b o (hb : b < w.heap.size + 3) => World.cell?_of_block (w := wr) (w' := W) (a := ⟨b, o, none⟩) (hk b (by omega) (fun e => by have := hrow b e.symm; omega))
        exact ⟨(hc _ _ (by omega)).trans c5, (hc _ _ (by omega)).trans b3, (hc _ _ (by omega)).trans d0, (hc _ _ (by omega)).trans d1, (hc _ _ (by omega)).trans d2, (hc _ _ (by omega)).trans d3⟩
      have sb1 := sof (wr.drew.alloc (.cells #[.int .i64 x1, .int .i64 x2, .int .i64 x3, .int .i64 x4, .slice none 0 0, .int .i64 0] 163)) (fun k hk _ => bl1.block k hk)
      have sb2 := sof ((wr.drew.alloc (.cells #[.int .i64 x1, .int .i64 x2, .int .i64 x3, .int .i64 x4, .slice none 0 0, .int .i64 0] 163)).alloc (.cells #[lnP wr.heap.size] 161)) (fun k hk _ => bl2.block k hk)
      have hl12 : bs.length + 1 ≤ 12 := by omega
      have hrowr : ((wr.drew.alloc (.cells #[.int .i64 x1, .int .i64 x2, .int .i64 x3, .int .i64 x4, .slice none 0 0, .int .i64 0] 163)).alloc (.cells #[lnP wr.heap.size] 161)).ownsRow (w.heap.size + 3) 161 1 lv bs.length (bs.map lnP) := own_block hnk.row (fun k hk => bl2.block k (by
        rcases hnk.row.2 with ⟨h2, _⟩ | ⟨g, cap, cur, h2, _, h4, _⟩
        · rw [h2] at hk; cases hk
        · rw [h2] at hk; simp only [Value.ownBlock, Option.some.injEq] at hk; subst hk; exact (Array.getElem?_eq_some_iff.1 h4).1))
      obtain ⟨iT, hiT, hzT⟩ : ∃ i, Tryz.prog.info? 161 = some i ∧ (i.zero, i.size, i.bytes) = (some (.pointer none), 1, 8) := by
        have := infoLn
        cases hq : Tryz.prog.info? 161 with
        | none => rw [hq] at this; cases this
        | some i => rw [hq] at this; exact ⟨i, rfl, Option.some.inj this⟩
      simp only [Prod.mk.injEq] at hzT
      obtain ⟨lv2, wa, hra, hown, hgr, hnw⟩ := run_append_at (P := Tryz.prog) ((wr.drew.alloc (.cells #[.int .i64 x1, .int .i64 x2, .int .i64 x3, .int .i64 x4, .slice none 0 0, .int .i64 0] 163)).alloc (.cells #[lnP wr.heap.size] 161)) 64 64 (w.heap.size + 3) 161 iT _ 1 8 (by kernel_rfl) hiT hzT.1 hzT.2.1 hzT.2.2 rfl (by decide) lv bs.length (bs.map lnP) hrowr ⟨wr.heap.size + 1, 0, none⟩ 1 1 [lnP wr.heap.size] rfl (one_new_at (by simp) _ _) (by simp [lnP, Value.oneCell']) (by have : maxLen = 9223372036854775807 := rfl; omega) (by omega) (by simp; omega)
      clear hiT hzT
      obtain ⟨gv, cv, rfl⟩ : ∃ g cap, lv2 = .slice (some ⟨g, 0, none⟩) (bs.length + 1) cap := by
        rcases row_form hown with ⟨_, h0⟩ | h0
        · omega
        · exact h0
      have sb3 := sof wa (fun k hk hn => (hgr.block k (by simp; omega) hn).trans (bl2.block k hk))
      have hfz : wa.frozen? ⟨w.heap.size + 2, 5, none⟩ = false := by
        have hb : wa.heap[w.heap.size + 2]? = wr.heap[w.heap.size + 2]? := (hgr.block _ (by simp; omega) (fun e => by
          rcases hnk.row.2 with ⟨h2, _⟩ | ⟨g, cap, cur, h2, h3, _⟩
          · rw [h2] at e; cases e
          · rw [h2] at e; simp only [Value.ownBlock, Option.some.injEq] at e; omega)).trans (bl2.block _ (by omega))
        exact (World.frozen?_of_block (w := wr) (a := ⟨w.heap.size + 2, 5, none⟩) hb).trans f5
      have HN : Hid (NK w (wa.setCell ⟨w.heap.size + 2, 5, none⟩ (.slice (some ⟨gv, 0, none⟩) (bs.length + 1) cv)) p (.slice ca p.code.length cc) vs (.slice (some ⟨wb, wo, none⟩) p.wires.length wc') (.slice (some ⟨gv, 0, none⟩) (bs.length + 1) cv) (bs ++ [wr.heap.size])) := hnk.more (nd := 1) HY.out hgr hown (fun k hk => by
        rcases hnw k hk with h1 | h1
        · exact Or.inl h1
        · simp at h1; exact Or.inr h1)
      have k5a := sb3.1
      clear sof hnk hown hgr hnw hrowr HY bl1 bl2
      go_upto_region 5 with fail
      refine wp_region_popped (fun W => W.cell? ⟨w.heap.size + 2, 5, none⟩ = some lv ∧ W.cell? ⟨w.heap.size, 3, none⟩ = some (.slice (some ⟨wb, wo, none⟩) p.wires.length wc') ∧ W.cell? ⟨wb, wo + bs.length * 4, none⟩ = some (.int .i64 x1) ∧ W.cell? ⟨wb, wo + bs.length * 4 + 1, none⟩ = some (.int .i64 x2) ∧ W.cell? ⟨wb, wo + bs.length * 4 + 2, none⟩ = some (.int .i64 x3) ∧ W.cell? ⟨wb, wo + bs.length * 4 + 3, none⟩ = some (.int .i64 x4)) (by kernel_rfl) rfl (by decide +kernel) sdr (fun hHeld => ?_)
      simp only [List.pop_toArray, List.dropLast_cons_cons, List.dropLast_singleton, List.size_toArray, List.length_cons, List.length_nil, Nat.reduceAdd, Array.replicate_succ, Array.replicate_zero, List.push_toArray, List.nil_append, List.cons_append]
      refine wpAnyH_take (i := 0) (v := ?_) rfl (by decide +kernel) (by decide +kernel) (by decide +kernel) (fun _ _ _ h => h) (Or.inl ⟨by rfl, ?_⟩) (by assumption) ?_
      rotate_left
      · intro W hSw
        try dsimp only at hSw
        go_simp
        try with_reducible rfl
      simp only [Act.put, List.setIfInBounds_toArray, List.set_cons_zero]
      refine wpAnyH_take (i := 1) (v := ?_) rfl (by decide +kernel) (by decide +kernel) (by decide +kernel) (fun _ _ _ h => h) (Or.inl ⟨by rfl, ?_⟩) (by assumption) ?_
      rotate_left
      · intro W hSw
        try dsimp only at hSw
        go_simp
        try with_reducible rfl
      simp only [Act.put, List.setIfInBounds_toArray, List.set_cons_zero, List.set_cons_succ]
      refine wpAnyH_take (i := 2) (v := ?_) rfl (by decide +kernel) (by decide +kernel) (by decide +kernel) (fun _ _ _ h => h) (Or.inl ⟨by rfl, ?_⟩) (by assumption) ?_
      rotate_left
      · intro W hSw
        try dsimp only at hSw
        go_simp
        try with_reducible rfl
      simp only [Act.put, List.setIfInBounds_toArray, List.set_cons_zero, List.set_cons_succ]
      refine wpAnyH_take (i := 3) (v := ?_) rfl (by decide +kernel) (by decide +kernel) (by decide +kernel) (fun _ _ _ h => h) (Or.inl ⟨by rfl, ?_⟩) (by assumption) ?_
      rotate_left
      · intro W hSw
        try dsimp only at hSw
        go_simp
        try with_reducible rfl
      simp only [Act.put, List.setIfInBounds_toArray, List.set_cons_zero, List.set_cons_succ]
      refine wpAnyH_take (i := 4) (v := ?_) rfl (by decide +kernel) (by decide +kernel) (by decide +kernel) (fun _ _ _ h => h) (Or.inl ⟨by rfl, ?_⟩) (by assumption) ?_
      rotate_left
      · intro W hSw
        try dsimp only at hSw
        go_simp
        try with_reducible rfl
      simp only [Act.put, List.setIfInBounds_toArray, List.set_cons_zero, List.set_cons_succ]
      refine wpAnyH_take (i := 5) (v := ?_) rfl (by decide +kernel) (by decide +kernel) (by decide +kernel) (fun _ _ _ h => h) (Or.inl ⟨by rfl, ?_⟩) (by assumption) ?_
      rotate_left
      · intro W hSw
        try dsimp only at hSw
        go_simp
        try with_reducible rfl
      simp only [Act.put, List.setIfInBounds_toArray, List.set_cons_zero, List.set_cons_succ]
      refine wpAnyH_take (i := 6) (v := ?_) rfl (by decide +kernel) (by decide +kernel) (by decide +kernel) (fun _ _ _ h => h) (Or.inl ⟨by rfl, ?_⟩) (by assumption) ?_
      rotate_left
      · intro W hSw
        try dsimp only at hSw
        go_simp
        try with_reducible rfl
      simp only [Act.put, List.setIfInBounds_toArray, List.set_cons_zero, List.set_cons_succ]
      refine wpAnyH_take (i := 7) (v := ?_) rfl (by decide +kernel) (by decide +kernel) (by decide +kernel) (fun _ _ _ h => h) (Or.inl ⟨by rfl, ?_⟩) (by assumption) ?_
      rotate_left
      · intro W hSw
        try dsimp only at hSw
        go_simp
        try with_reducible rfl
      simp only [Act.put, List.setIfInBounds_toArray, List.set_cons_zero, List.set_cons_succ]
      refine wpAnyH_take (i := 8) (v := ?_) rfl (by decide +kernel) (by decide +kernel) (by decide +kernel) (fun _ _ _ h => h) (Or.inl ⟨by rfl, ?_⟩) (by assumption) ?_
      rotate_left
      · intro W hSw
        try dsimp only at hSw
        go_simp
        try with_reducible rfl
      simp only [Act.put, List.setIfInBounds_toArray, List.set_cons_zero, List.set_cons_succ]
      refine wpAnyH_take (i := 9) (v := ?_) rfl (by decide +kernel) (by decide +kernel) (by decide +kernel) (fun _ _ _ h => h) (Or.inl ⟨by rfl, ?_⟩) (by assumption) ?_
      rotate_left
      · intro W hSw
        try dsimp only at hSw
        go_simp
        try with_reducible rfl
      simp only [Act.put, List.setIfInBounds_toArray, List.set_cons_zero, List.set_cons_succ]
      refine wpAnyH_take (i := 10) (v := ?_) rfl (by decide +kernel) (by decide +kernel) (by decide +kernel) (fun _ _ _ h => h) (Or.inl ⟨by rfl, ?_⟩) (by assumption) ?_
      rotate_left
      · intro W hSw
        try dsimp only at hSw
        go_simp
        try with_reducible rfl
      simp only [Act.put, List.setIfInBounds_toArray, List.set_cons_zero, List.set_cons_succ]
      refine wpAnyH_ready (rs := [11]) (by decide +kernel) (by simp) ?_
      refine AllReadyH.cons (o := _) rfl (fun K hK => ?_) AllReadyH.nil
      go_simp
      refine hK.out _ _ sb1 (fun hHeld => ?_)
      clear hK K
      simp only [List.setIfInBounds_toArray, List.set_cons_zero, List.set_cons_succ]
      refine wpAnyH_ready (rs := [12]) (by decide +kernel) (by simp) ?_
      refine AllReadyH.cons (o := _) rfl (fun K hK => ?_) AllReadyH.nil
      go_simp
      refine hK.out _ _ sb2 (fun hHeld => ?_)
      clear hK K
      simp only [List.setIfInBounds_toArray, List.set_cons_zero, List.set_cons_succ]
      refine wpAnyH_ready (rs := [13]) (by decide +kernel) (by simp) ?_
      refine AllReadyH.cons (o := _) rfl (fun K hK => ?_) AllReadyH.nil
      refine step_append_eq rfl (.tmp 23) (.tmp 31) 64 rfl lv (.slice (some ⟨wr.heap.size + 1, 0, none⟩) 1 1) rfl rfl (.slice (some ⟨gv, 0, none⟩) (bs.length + 1) cv) wa hra ?_
      refine hK.out _ _ sb3 (fun hHeld => ?_)
      clear hK K
      simp only [Act.put, List.setIfInBounds_toArray, List.set_cons_zero, List.set_cons_succ]
      refine wpAnyH_take (i := 14) (v := ?_) rfl (by decide +kernel) (by decide +kernel) (by decide +kernel) (fun _ _ _ h => h) (Or.inl ⟨by rfl, ?_⟩) (by assumption) ?_
      rotate_left
      · intro W hSw
        try dsimp only at hSw
        go_simp
        try with_reducible rfl
      simp only [Act.put, List.setIfInBounds_toArray, List.set_cons_zero, List.set_cons_succ]
      refine wpAnyH_take (i := 15) (v := ?_) rfl (by decide +kernel) (by decide +kernel) (by decide +kernel) (fun _ _ _ h => h) (Or.inl ⟨by rfl, ?_⟩) (by assumption) ?_
      rotate_left
      · intro W hSw
        try dsimp only at hSw
        go_simp
        try with_reducible rfl
      simp only [Act.put, List.setIfInBounds_toArray, List.set_cons_zero, List.set_cons_succ]
      refine wpAnyH_done (by decide +kernel) ?_ _
      show Oper.wp _ _ _ _ _ _
      go_simp
      go_wp2
      go_roundw
      case rel => exact ⟨(.slice (some ⟨gv, 0, none⟩) (bs.length + 1) cv), bs ++ [wr.heap.size], by rw [List.length_append]; go_num, HN.out⟩
      case measure => simp [intOf]; omega
    · have hki : decide ((bs.length : Int) < (p.wires.length : Int)) = false := decide_eq_false (by omega)
      have hkn : decide (bs.length < p.wires.length) = false := decide_eq_false (by omega)
      have HD : Hid (∃ a : KW, a.kb = w.heap.size + 2 ∧ w.heap.size ≤ a.lr ∧ RK wr w.heap.size p (.slice ca p.code.length cc) vs (.slice wa p.wires.length wc') (newK p) a) := hnk.done (by omega)
      have HB : Hid (Below w.heap.size w wr) := hnk.bx.below
      clear hnk
      go_wp2
      go_ret
      obtain ⟨a, ha, hl, hr⟩ := HD.out
      exact ⟨a, (by rw [ha]; rfl), hl, hr, HB.out⟩
theorem newkernel_any (p : PD) (vc vs vw : Value) (w : World) (hp : plchk p = 0) (hP : Pln w vc vs vw p) :
    Calls Tryz.prog 58 #[plV vc p.ticks vs vw] w fun e w' => ∃ a : KW, e = .returned (.pointer (some ⟨a.kb, 0, none⟩)) ∧ w.heap.size ≤ a.lr ∧ RK w' w.heap.size p vc vs vw (newK p) a ∧ Below w.heap.size w w' :=
  newkernel_loose p vc vs vw w (plchk_zero hp).1 (wschk_ok (plchk_zero hp).2.2.2.1).1 hP.code hP.wires
end Go.Proofs.YtajfgmlockjmhaiGreatDoor
