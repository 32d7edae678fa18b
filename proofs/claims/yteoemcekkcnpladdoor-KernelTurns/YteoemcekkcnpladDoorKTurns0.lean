/-
  The law KernelTurns: its own small plan, and what it lays by.
-/
import Derived.Test.YteoemcekkcnpladDoorJa8
import Derived.Test.YteoemcekkcnpladDoorStEq
import Derived.Test.YteoemcekkcnpladDoorRowL
import Derived.Test.YteoemcekkcnpladDoorJa3
import Derived.Test.YteoemcekkcnpladDoorFrameOwn
import Derived.Test.YteoemcekkcnpladDoorFlowOwn
import Derived.RangeFuncRecord
namespace Go.Proofs.YteoemcekkcnpladDoor
open Go.RowKit

/-- The law's own plan: one room that sets a cell, every second tick. -/
def toyP : PD := ⟨[[(1, 2, 7)]], 2, [(0, 1, 0)], []⟩
theorem toy_ok : plchk toyP = 0 := by decide +kernel
theorem toy_first : (tickK toyP toyP.spans (kT toyP 0)).2 = (0, 0, 0, 0) := by decide +kernel
theorem toy_state : (roomK (kT toyP 1) 0).c 2 = 7 ∧ noRoom (kT toyP 1) 0 = false := by decide +kernel
theorem toy_next : (tickK toyP toyP.spans (kT toyP 1)).2.2.1 = -1 := by decide +kernel
/-- It lies in the world. -/
theorem toy_pln (W : World) (n : Nat) (hn : n = W.heap.size) : Pln (((W.alloc (.cells #[.int .i64 1, .int .i64 2, .int .i64 7] 25)).alloc (.cells #[.slice (some ⟨n, 0, none⟩) 1 1] 26)).alloc (.cells #[.int .i64 0, .int .i64 1, .int .i64 0] 42)) (.slice (some ⟨n + 1, 0, none⟩) 1 1) (.slice (some ⟨n + 2, 0, none⟩) 1 1) (.slice none 0 0) toyP := by
  subst hn
  refine ⟨Or.inr ⟨_, 0, 1, rfl, Nat.le_refl _, by simp, fun i c hi => ?_⟩, Or.inr ⟨_, 0, 1, rfl, Nat.le_refl _, by simp, fun i s hi => ?_⟩, Or.inl ⟨rfl, _, _, rfl⟩⟩
  · match i, hi with
    | 0, hi =>
      simp [toyP] at hi
      subst hi
      refine ⟨.slice (some ⟨W.heap.size, 0, none⟩) 1 1, by simp [go_sem], Or.inr ⟨W.heap.size, 0, 1, rfl, by simp; omega, fun j o ho => ?_⟩⟩
      match j, ho with
      | 0, ho => simp at ho; subst ho; simp [go_sem]
      | j + 1, ho => simp at ho
    | i + 1, hi => simp [toyP] at hi
  · match i, hi with
    | 0, hi => simp [toyP] at hi; subst hi; simp [go_sem]
    | i + 1, hi => simp [toyP] at hi
/-- The room of an event that is a value. -/
theorem field_room (a b c d : Int) (w : World) : (Instr.field 44 (.agg #[.int .i64 a, .int .i64 b, .int .i64 c, .int .i64 d]) 1).run Tryd.prog w = .ok (.int .i64 b) w := by kernel_rfl
/-- A row of states that is owned: where each lies. -/
theorem was_at {W : World} {base n : Nat} {v : Value} {l : List St} (h : W.ownsRow base 48 8 v n (stCells l)) (hn : n ≠ 0) : ∃ g cap, v = .slice (some ⟨g, 0, none⟩) n cap ∧ base ≤ g ∧ g < W.heap.size ∧ ∀ (r : Nat) s, l[r]? = some s → StC W g (r * 8) s := by
  rcases h.2 with ⟨_, h3⟩ | ⟨g, cap, cur, h2, h3, h4, _⟩
  · exact absurd h3 hn
  · refine ⟨g, cap, h2, h3, (Array.getElem?_eq_some_iff.1 h4).1, fun r s hs => ?_⟩
    have hc : ∀ j u, (stCells l)[j]? = some u → W.cell? ⟨g, j, none⟩ = some u := fun j u hj => by
      have := h.cells (g := g) (by rw [h2]; rfl) j u hj
      rw [Addr.add_lit, Nat.zero_add] at this
      exact this
    obtain ⟨h0, h1, h2, h3, h4, h5, h6, h7⟩ := stCells_at l r s hs
    exact ⟨hc _ _ h0, hc _ _ h1, hc _ _ h2, hc _ _ h3, hc _ _ h4, hc _ _ h5, hc _ _ h6, hc _ _ h7⟩
/-- What was held, laid by: each with its numbers. -/
structure HRow (k : KD) (B : Nat) (W : World) (v : Value) (l : List (Value × Int)) : Prop where
  own : W.ownsRow B 58 2 v l.length (hdCells l)
  rd : ∀ (i : Nat) x ln, l[i]? = some x → k.lines[i]? = some ln → Rd W x.1 ln.xs ∧ x.2 = ln.ls
  ap : ∀ x ∈ l, ∀ g, x.1.ownBlock = some g → B ≤ g ∧ g < W.heap.size ∧ v.ownBlock ≠ some g
theorem HRow.nil (k : KD) (W : World) : HRow k W.heap.size W (.slice none 0 0) [] := ⟨World.ownsRow_nil _ _ _ _, fun i x ln h => by simp at h, fun x hx => by cases hx⟩
theorem HRow.rlt {k : KD} {B : Nat} {W : World} {v : Value} {l : List (Value × Int)} (h : HRow k B W v l) : ∀ g, v.ownBlock = some g → B ≤ g ∧ g < W.heap.size := fun g hg => by
  rcases h.own.2 with ⟨h2, _⟩ | ⟨g', cap, cur, h2, h3, h4, _⟩
  · rw [h2] at hg
    cases hg
  · rw [h2] at hg
    simp only [Value.ownBlock, Option.some.injEq] at hg
    subst hg
    exact ⟨h3, (Array.getElem?_eq_some_iff.1 h4).1⟩
/-- What is written lies ahead of it. -/
theorem HRow.touch {k : KD} {B : Nat} {W W' : World} {v : Value} {l : List (Value × Int)} (h : HRow k B W v l) {M : List Nat} (ht : KTouch M W W') (hM : ∀ m ∈ M, m < B) : HRow k B W' v l := by
  refine ⟨own_block h.own (fun g hg => ht.block g (h.rlt g hg).2 (fun hm => ?_)), fun i x ln hx hl => ?_, fun x hx g hg => ?_⟩
  · have := hM g hm
    have := (h.rlt g hg).1
    omega
  · obtain ⟨h1, h2⟩ := h.rd i x ln hx hl
    refine ⟨h1.block (fun g hg he => ht.block g hg (fun hm => ?_)) ht.size, h2⟩
    have := hM g hm
    have := (h.ap x (List.mem_of_getElem? hx) g he).1
    omega
  · obtain ⟨h1, h2, h3⟩ := h.ap x hx g hg
    exact ⟨h1, Nat.lt_of_lt_of_le h2 ht.size, h3⟩
/-- One more. -/
theorem HRow.more {k : KD} {B : Nat} {W w7 w8 : World} {v v' u : Value} {l : List (Value × Int)} {ln : LnD} (h : HRow k B W v l) (hB : B ≤ W.heap.size) (hln : k.lines[l.length]? = some ln) (b7 : Below W.heap.size W w7) (hu : Rd w7 u ln.xs) (hf : ∀ g, u.ownBlock = some g → W.heap.size ≤ g ∧ g < w7.heap.size)
    {o1 o2 : Obj} (hg : ((w7.alloc o1).alloc o2).grownBy w8 v.ownBlock) (hown : w8.ownsRow B 58 2 v' (l.length + 1) (hdCells l ++ [u, .int .i64 ln.ls])) (hnew : ∀ g, v'.ownBlock = some g → v.ownBlock = some g ∨ w7.heap.size + 2 ≤ g) : HRow k B w8 v' (l ++ [(u, ln.ls)]) := by
  have hbl : Below w7.heap.size w7 ((w7.alloc o1).alloc o2) := ((Below.refl _ _).alloc (Nat.le_refl _) _).alloc (by simp) _
  have hs2 : ((w7.alloc o1).alloc o2).heap.size = w7.heap.size + 2 := by simp
  have hs8 : w7.heap.size + 2 ≤ w8.heap.size := by have := hg.size; omega
  have hs7 := b7.size
  have hk : ∀ g, g < w7.heap.size → v.ownBlock ≠ some g → w8.heap[g]? = w7.heap[g]? := fun g h1 h2 => (hg.block g (by omega) (fun e => h2 e.symm)).trans (hbl.block g h1)
  have hun : ∀ g, u.ownBlock = some g → v.ownBlock ≠ some g := fun g h1 h2 => by
    have := (hf g h1).1
    have := (h.rlt g h2).2
    omega
  refine ⟨by rw [List.length_append, hdCells_snoc]; exact hown, fun i x ln' hx hl => ?_, fun x hx g hgx => ?_⟩
  · by_cases hil : i < l.length
    · rw [List.getElem?_append_left hil] at hx
      obtain ⟨h1, h2⟩ := h.rd i x ln' hx hl
      refine ⟨(h1.block (fun g hg' he => b7.block g hg') b7.size).block (fun g hg' he => hk g hg' (h.ap x (List.mem_of_getElem? hx) g he).2.2) (by omega), h2⟩
    · have hlt := (List.getElem?_eq_some_iff.1 hx).1
      rw [List.length_append, List.length_singleton] at hlt
      obtain rfl : i = l.length := by omega
      rw [List.getElem?_append_right (Nat.le_refl _), Nat.sub_self] at hx
      simp only [List.getElem?_cons_zero, Option.some.injEq] at hx
      subst hx
      rw [hln] at hl
      obtain rfl := Option.some.inj hl
      exact ⟨hu.block (fun g hg' he => hk g hg' (hun g he)) (by omega), rfl⟩
  · rcases List.mem_append.1 hx with h1 | h1
    · obtain ⟨h2, h3, h4⟩ := h.ap x h1 g hgx
      refine ⟨h2, by omega, fun e => ?_⟩
      rcases hnew g e with h5 | h5
      · exact h4 h5
      · omega
    · rw [List.mem_singleton] at h1
      subst h1
      obtain ⟨h2, h3⟩ := hf g hgx
      refine ⟨by omega, by omega, fun e => ?_⟩
      rcases hnew g e with h5 | h5
      · exact hun g hgx h5
      · omega
/-- Where each lies. -/
theorem HRow.at {k : KD} {B : Nat} {W : World} {v : Value} {l : List (Value × Int)} (h : HRow k B W v l) {i : Nat} (hi : i < l.length) : ∃ g cap x, v = .slice (some ⟨g, 0, none⟩) l.length cap ∧ l[i]? = some x ∧ W.cell? ⟨g, i * 2, none⟩ = some x.1 ∧ W.cell? ⟨g, i * 2 + 1, none⟩ = some (.int .i64 x.2) := by
  rcases h.own.2 with ⟨_, h3⟩ | ⟨g, cap, cur, h2, _⟩
  · omega
  · have hc : ∀ j u, (hdCells l)[j]? = some u → W.cell? ⟨g, j, none⟩ = some u := fun j u hj => by
      have := h.own.cells (g := g) (by rw [h2]; rfl) j u hj
      rw [Addr.add_lit, Nat.zero_add] at this
      exact this
    have hx := List.getElem?_eq_getElem hi
    obtain ⟨h0, h1⟩ := hdCells_at l i _ hx
    exact ⟨g, cap, _, h2, hx, hc _ _ h0, hc _ _ h1⟩
end Go.Proofs.YteoemcekkcnpladDoor
