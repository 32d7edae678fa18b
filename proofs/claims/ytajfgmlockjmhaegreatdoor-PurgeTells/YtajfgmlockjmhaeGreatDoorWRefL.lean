/-
  frameref1.Line: Send, Take: the document's own line in the world.
-/
import Derived.Test.YtajfgmlockjmhaeGreatDoorJa3
import Derived.Test.YtajfgmlockjmhaeGreatDoorJa4
import Derived.Test.YtajfgmlockjmhaeGreatDoorJa1
import Derived.BigQuiet
namespace Go.Proofs.YtajfgmlockjmhaeGreatDoor
open Go.RowKit

/-- The cells of the document's line. -/
def RlC (w : World) (b : Nat) (kd dp ls : Int) (u : Value) : Prop := w.cell? ⟨b, 2, none⟩ = some (.int .i64 kd) ∧ w.cell? ⟨b, 3, none⟩ = some (.int .i64 dp) ∧ w.cell? ⟨b, 4, none⟩ = some u ∧ w.cell? ⟨b, 5, none⟩ = some (.int .i64 ls) ∧ w.frozen? ⟨b, 4, none⟩ = false ∧ w.frozen? ⟨b, 5, none⟩ = false
theorem RlC.block {w w' : World} {b : Nat} {kd dp ls : Int} {v : Value} (h : RlC w b kd dp ls v) (hb : w'.heap[b]? = w.heap[b]?) : RlC w' b kd dp ls v := by
  have hc := fun o => World.cell?_of_block (w := w) (w' := w') (a := ⟨b, o, none⟩) hb
  have hf := fun o => World.frozen?_of_block (w := w) (w' := w') (a := ⟨b, o, none⟩) hb
  unfold RlC
  simp only [hc, hf]
  exact h
theorem RlC.items {w : World} {b : Nat} {kd dp ls : Int} {v : Value} (h : RlC w b kd dp ls v) (u : Value) : RlC (w.setCell ⟨b, 4, none⟩ u) b kd dp ls u := by
  obtain ⟨c0, c1, c2, c3, f2, f3⟩ := h
  refine ⟨?_, ?_, ?_, ?_, ?_, ?_⟩ <;> simp [go_sem, c0, c1, c2, c3, f2, f3]
theorem RlC.lost {w : World} {b : Nat} {kd dp ls : Int} {v : Value} (h : RlC w b kd dp ls v) (n : Int) : RlC (w.setCell ⟨b, 5, none⟩ (.int .i64 n)) b kd dp n v := by
  obtain ⟨c0, c1, c2, c3, f2, f3⟩ := h
  refine ⟨?_, ?_, ?_, ?_, ?_, ?_⟩ <;> simp [go_sem, c0, c1, c2, c3, f2, f3]
theorem RlC.lt {w : World} {b : Nat} {kd dp ls : Int} {v : Value} (h : RlC w b kd dp ls v) : b < w.heap.size := wlt h.1
/-- The document's line: its block lies ahead of 'base', its numbers from 'base' on. -/
structure Rl (w : World) (base b : Nat) (kd dp : Int) (xs : List Int) (ls : Int) (u : Value) : Prop where
  c : RlC w b kd dp ls u
  rd : Rd w u xs
  own : ∀ k, u.ownBlock = some k → base ≤ k ∧ k < w.heap.size
  lt : b < base
  le : base ≤ w.heap.size
/-- What a call on it changes: its block alone; and it makes memory. -/
structure RTouch (w w' : World) (b : Nat) (u u' : Value) : Prop where
  os : w'.os = w.os
  tape : w'.tape = w.tape
  output : w'.output = w.output
  size : w.heap.size ≤ w'.heap.size
  block : ∀ k, k < w.heap.size → k ≠ b → w'.heap[k]? = w.heap[k]?
  new : ∀ k, u'.ownBlock = some k → u.ownBlock = some k ∨ w.heap.size ≤ k
  head : b < w.heap.size → ∀ o, o < 4 → w'.cell? ⟨b, o, none⟩ = w.cell? ⟨b, o, none⟩
theorem RTouch.refl (w : World) (b : Nat) (u : Value) : RTouch w w b u u := ⟨rfl, rfl, rfl, Nat.le_refl _, fun _ _ _ => rfl, fun _ h => Or.inl h, fun _ _ _ => rfl⟩
theorem RTouch.below {w w' : World} {b B : Nat} {u u' : Value} (h : RTouch w w' b u u') (hb : B ≤ b) (hB : B ≤ w.heap.size) : Below B w w' :=
  ⟨h.os, h.tape, h.output, h.size, fun k hk => h.block k (by omega) (by omega)⟩
theorem RTouch.set {w w' : World} {b : Nat} {u u' : Value} (h : RTouch w w' b u u') (i : Nat) (x : Value) (hi : 4 ≤ i := by decide) : RTouch w (w'.setCell ⟨b, i, none⟩ x) b u u' :=
  ⟨h.os, h.tape, h.output, by have := h.size; simpa using this, fun k hk hb => by rw [Below.heap_setCell _ _ _ _ hb]; exact h.block k hk hb, h.new, fun hb o ho => (World.cell?_setCell_other _ _ _ _ (fun e => by injection e with e1 e2; omega)).trans (h.head hb o ho)⟩
theorem RTouch.of {w w' : World} {b : Nat} {u u' : Value} (h : Below w.heap.size w w') (hn : ∀ k, u'.ownBlock = some k → u.ownBlock = some k ∨ w.heap.size ≤ k) : RTouch w w' b u u' :=
  ⟨h.os, h.tape, h.output, h.size, fun k hk _ => h.block k hk, hn, fun hb o _ => h.cell (p := ⟨b, o, none⟩) hb⟩

theorem RTouch.alloc {w w' : World} {b : Nat} {u u' : Value} (h : RTouch w w' b u u') (o : Obj) : RTouch w (w'.alloc o) b u u' :=
  ⟨h.os, h.tape, h.output, by have := h.size; simp; omega, fun k hk hb => by rw [Below.heap_alloc _ _ _ (Nat.lt_of_lt_of_le hk h.size)]; exact h.block k hk hb, h.new, fun hb p hp => (World.cell?_of_block (w := w') (a := ⟨b, p, none⟩) (Below.heap_alloc _ _ _ (Nat.lt_of_lt_of_le hb h.size))).trans (h.head hb p hp)⟩
theorem RTouch.as {w w' : World} {b : Nat} {u u' u2 : Value} (h : RTouch w w' b u u') (hn : ∀ k, u2.ownBlock = some k → u.ownBlock = some k ∨ w.heap.size ≤ k) : RTouch w w' b u u2 := ⟨h.os, h.tape, h.output, h.size, h.block, hn, h.head⟩

set_option maxRecDepth 100000 in
set_option maxHeartbeats 4000000 in
theorem rsend_sample (base b : Nat) (dp : Int) (xs : List Int) (ls : Int) (u : Value) (n : Int) (w : World) (hR : Rl w base b 1 dp xs ls u) :
    Calls Tryz.prog 59 #[.pointer (some ⟨b, 0, none⟩), .int .i64 n] w fun e w' => ∃ u', e = .returned (.bool true) ∧ Rl w' base b 1 dp [n] ls u' ∧ RTouch w w' b u u' := by
  have hlt := hR.c.lt
  have HR : Hid (Rl w base b 1 dp xs ls u) := hR
  obtain ⟨ao, cap, rfl⟩ := hR.rd.form
  obtain ⟨c0, c1, c2, c3, f2, f3⟩ := hR.c
  clear c1 c3 f3 hR
  have hne : b ≠ w.heap.size := by omega
  go_enter Tryz.func59, Tryz.ntmps59
  go_wp2
  go_ret
  refine ⟨.slice (some ⟨w.heap.size, 0, none⟩) 1 1, rfl, ⟨(HR.out.c.items _).block (Below.heap_alloc _ _ _ (by simpa using hlt)), Or.inr ⟨w.heap.size, 0, 1, rfl, Nat.le_refl _, by unfold maxLen; decide, by simp, fun i x hx => ?_⟩, fun k hk => ?_, HR.out.lt, by have := HR.out.le; simp; omega⟩, ?_⟩
  · match i, hx with
    | 0, hx => simp at hx; subst hx; simp [go_sem]
  · simp only [Value.ownBlock, Option.some.injEq] at hk
    have := HR.out.le
    simp
    omega
  · exact (((RTouch.refl w b _).set 4 _).alloc _).as (fun k hk => by simp only [Value.ownBlock, Option.some.injEq] at hk; right; omega)

set_option maxRecDepth 100000 in
set_option maxHeartbeats 4000000 in
theorem rsend_full (base b : Nat) (dp : Int) (xs : List Int) (ls : Int) (u : Value) (n : Int) (w : World) (hls : 0 ≤ ls ∧ ls < 1000000000) (hR : Rl w base b 2 dp xs ls u) (hdp : dp ≤ (xs.length : Int)) :
    Calls Tryz.prog 59 #[.pointer (some ⟨b, 0, none⟩), .int .i64 n] w fun e w' => e = .returned (.bool false) ∧ Rl w' base b 2 dp xs (ls + 1) u ∧ RTouch w w' b u u := by
  have hlt := hR.c.lt
  have HR : Hid (Rl w base b 2 dp xs ls u) := hR
  obtain ⟨ao, cap, rfl⟩ := hR.rd.form
  obtain ⟨c0, c1, c2, c3, f2, f3⟩ := hR.c
  obtain ⟨hls0, hls1⟩ := hls
  have hd : decide ((xs.length : Int) < dp) = false := by simp; omega
  clear hR
  go_enter Tryz.func59, Tryz.ntmps59
  go_wp2
  go_quiet (fail)
  go_wp2
  go_ret
  have hB := below_dN (Below.refl w.heap.size w) nq
  exact ⟨rfl, ⟨(HR.out.c.block (hB.block b hlt)).lost _, HR.out.rd.block (fun k _ hk => by rw [Below.heap_setCell _ _ _ _ (by have := HR.out.own k hk; have := HR.out.lt; show k ≠ b; omega)]; rfl) (by simp), fun k hk => by have := HR.out.own k hk; simp; omega, HR.out.lt, by have := HR.out.le; simpa using this⟩, (RTouch.of hB (fun k hk => Or.inl hk)).set 5 _⟩

/-- Behind both appends, and the store. -/
theorem room_end {w w2 : World} {base b : Nat} {dp ls n : Int} {xs : List Int} {u v1 : Value} (hR : Rl w base b 2 dp xs ls u) (hB : Below w.heap.size w w2) (own1 : w2.ownsRow w.heap.size 3 1 v1 (xs.length + 1) (ints xs ++ [.int .i64 n])) :
    Rl (w2.setCell ⟨b, 4, none⟩ v1) base b 2 dp (xs ++ [n]) ls v1 ∧ RTouch w (w2.setCell ⟨b, 4, none⟩ v1) b u v1 := by
  have hlt := hR.c.lt
  have own2 := ownsRow_setCell_below own1 (a := ⟨b, 4, none⟩) hlt v1
  refine ⟨⟨(hR.c.block (hB.block b hlt)).items _, Rd.own (base := w.heap.size) (by rw [ints_snoc, List.length_append]; exact own2), fun k hk => ?_, hR.lt, by have := hR.le; have := hB.size; simp; omega⟩, ?_⟩
  · have := own1.lt k hk
    have := hR.le
    simp
    omega
  · exact (RTouch.of hB (fun k hk => Or.inr (own1.lt k hk).1)).set 4 _

set_option maxRecDepth 100000 in
set_option maxHeartbeats 4000000 in
theorem rsend_first (base b : Nat) (dp : Int) (ls : Int) (ao : Option Addr) (cap : Nat) (n : Int) (w : World) (hR : Rl w base b 2 dp [] ls (.slice ao 0 cap)) (hdp : 0 < dp) :
    Calls Tryz.prog 59 #[.pointer (some ⟨b, 0, none⟩), .int .i64 n] w fun e w' => ∃ u', e = .returned (.bool true) ∧ Rl w' base b 2 dp [n] ls u' ∧ RTouch w w' b (.slice ao 0 cap) u' := by
  obtain ⟨ii, hi, hz0, hz1, hz2⟩ := info_parts infoInt
  have hlt := hR.c.lt
  have HR : Hid (Rl w base b 2 dp [] ls (.slice ao 0 cap)) := hR
  obtain ⟨c0, c1, c2, c3, f2, f3⟩ := hR.c
  clear hR
  go_enter Tryz.func59, Tryz.ntmps59
  go_wp2
  go_quiet (fail)
  have hB := below_dN (Below.refl w.heap.size w) nq
  go_wp2_with (first | (at_builtin; refine wpList_append_eq rfl _ _ 52 rfl (.slice none 0 0) (.slice ao 0 cap) rfl rfl (.slice none 0 0) _ (append_none ao cap _ _) ?_) | (at_builtin; refine wpList_append_at _ rfl _ _ 52 rfl w.heap.size 3 ii (.int .i64 0) 1 8 Tryz.underlying52 hi hz0 hz1 hz2 rfl (by decide) _ _ _ rfl (World.ownsRow_nil _ _ _ _) ⟨w.heap.size, 0, none⟩ 1 1 [.int .i64 n] rfl rfl ?c1A ?c2A ?c3A ?c4A ?c5A ?_))
  case c1A => exact one_new_at (by simp) _ _
  case c2A => exact one_one n
  case c3A => unfold maxLen; simp
  case c4A => simp
  case c5A => simp
  intro v1 w2 own1 hg1 hat1
  have hB2 : Below w.heap.size w w2 := (hB.alloc (by simp) _).grown hg1 (by simp) (by intro k hk; cases hk)
  have HE : Hid (Rl (w2.setCell ⟨b, 4, none⟩ v1) base b 2 dp ([] ++ [n]) ls v1 ∧ RTouch w (w2.setCell ⟨b, 4, none⟩ v1) b (.slice ao 0 cap) v1) := room_end HR.out hB2 own1
  have hc2 := HR.out.c.block (hB2.block b hlt)
  obtain ⟨k0, k1, k2, k3, k4, k5⟩ := hc2
  have hlt2 : b < w2.heap.size := Nat.lt_of_lt_of_le hlt hB2.size
  obtain ⟨g1, cap1, rfl⟩ : ∃ g cap, v1 = .slice (some ⟨g, 0, none⟩) 1 cap := by
    rcases row_form own1 with ⟨_, h⟩ | h
    · simp at h
    · simpa using h
  clear own1 hg1 hat1 c0 c1 c2 c3 f2 f3 k0 k1 k3 k5
  go_wp2
  go_ret
  exact ⟨_, rfl, HE.out⟩

set_option maxRecDepth 100000 in
set_option maxHeartbeats 4000000 in
theorem rsend_more (base b : Nat) (dp : Int) (xs : List Int) (ls : Int) (g off cap : Nat) (n : Int) (w : World) (hR : Rl w base b 2 dp xs ls (.slice (some ⟨g, off, none⟩) xs.length cap)) (hdp : (xs.length : Int) < dp) (hx : xs.length ≤ 1000000) (hc : ∀ (i : Nat) x, xs[i]? = some x → w.cell? ⟨g, off + i, none⟩ = some (.int .i64 x)) :
    Calls Tryz.prog 59 #[.pointer (some ⟨b, 0, none⟩), .int .i64 n] w fun e w' => ∃ u', e = .returned (.bool true) ∧ Rl w' base b 2 dp (xs ++ [n]) ls u' ∧ RTouch w w' b (.slice (some ⟨g, off, none⟩) xs.length cap) u' := by
  obtain ⟨ii, hi, hz0, hz1, hz2⟩ := info_parts infoInt
  have hlt := hR.c.lt
  have HR : Hid (Rl w base b 2 dp xs ls (.slice (some ⟨g, off, none⟩) xs.length cap)) := hR
  have HC : Hid (∀ (i : Nat) x, xs[i]? = some x → w.cell? ⟨g, off + i, none⟩ = some (.int .i64 x)) := hc
  obtain ⟨c0, c1, c2, c3, f2, f3⟩ := hR.c
  clear hR hc
  go_enter Tryz.func59, Tryz.ntmps59
  go_wp2
  go_quiet (fail)
  have hB := below_dN (Below.refl w.heap.size w) nq
  go_wp2_with (at_builtin; refine wpList_append_at _ rfl _ _ 52 rfl w.heap.size 3 ii (.int .i64 0) 1 8 Tryz.underlying52 hi hz0 hz1 hz2 rfl (by decide) _ _ _ rfl (World.ownsRow_nil _ _ _ _) ⟨g, off, none⟩ xs.length cap (ints xs) rfl ?c0A ?c1A ?c2A ?c3A ?c4A ?c5A ?_)
  case c0A => rw [ints_len, Nat.mul_one]
  case c1A =>
    intro j x hj
    rw [Addr.add_lit]
    have hjl : j < xs.length := by have := (List.getElem?_eq_some_iff.1 hj).1; rwa [ints_len] at this
    have h1 := HC.out j xs[j] (List.getElem?_eq_getElem hjl)
    rw [ints_at (List.getElem?_eq_getElem hjl)] at hj
    have h2 := (hB.cell (p := ⟨g, off + j, none⟩) (wlt h1)).trans h1
    rw [h2]
    exact hj
  case c2A => intro x hx; obtain ⟨y, _, rfl⟩ := List.mem_map.1 hx; rfl
  case c3A => unfold maxLen; omega
  case c4A => omega
  case c5A => simp
  intro v1 w2 own1 hg1 hat1
  have hB2 : Below w.heap.size w w2 := hB.grown hg1 (by simp) (by intro k hk; cases hk)
  obtain ⟨k0, k1, k2, k3, k4, k5⟩ := HR.out.c.block (hB2.block b hlt)
  have hs2 : w.heap.size ≤ w2.heap.size := hB2.size
  have hlt2 : b < w2.heap.size := Nat.lt_of_lt_of_le hlt hB2.size
  obtain ⟨a1, cap1, rfl⟩ : ∃ ao cap, v1 = .slice ao xs.length cap := by
    rcases row_form own1 with ⟨rfl, h⟩ | ⟨g', cap', rfl⟩
    · exact ⟨_, _, by rw [h]⟩
    · exact ⟨_, _, rfl⟩
  clear hg1 hat1 c0 c1 c2 c3 f2 f3 k0 k1 k3 k5
  go_wp2_with (at_builtin; refine wpList_append_at _ rfl _ _ 52 rfl w.heap.size 3 ii (.int .i64 0) 1 8 Tryz.underlying52 hi hz0 hz1 hz2 rfl (by decide) _ _ _ rfl (own1.alloc _) ⟨w2.heap.size, 0, none⟩ 1 1 [.int .i64 n] rfl rfl ?d1A ?d2A ?d3A ?d4A ?d5A ?_)
  case d1A => exact one_new_at rfl _ _
  case d2A => exact one_one n
  case d3A => unfold maxLen; omega
  case d4A => omega
  case d5A => simp; omega
  intro v3 w3 own3 hg3 hat3
  have hB3 : Below w.heap.size w w3 := (hB2.alloc hs2 _).grown hg3 (by simp; omega) (by intro k hk; exact (own1.lt k hk).1)
  have HE : Hid (Rl (w3.setCell ⟨b, 4, none⟩ v3) base b 2 dp (xs ++ [n]) ls v3 ∧ RTouch w (w3.setCell ⟨b, 4, none⟩ v3) b (.slice (some ⟨g, off, none⟩) xs.length cap) v3) := room_end HR.out hB3 own3
  obtain ⟨j0, j1, j2, j3, j4, j5⟩ := HR.out.c.block (hB3.block b hlt)
  have hlt3 : b < w3.heap.size := Nat.lt_of_lt_of_le hlt hB3.size
  obtain ⟨g3, cap3, rfl⟩ : ∃ g cap, v3 = .slice (some ⟨g, 0, none⟩) (xs.length + 1) cap := by
    rcases row_form own3 with ⟨_, h⟩ | h
    · omega
    · exact h
  clear own3 own1 hg3 hat3 k2 k4 j0 j1 j3 j5
  go_wp2
  go_ret
  exact ⟨_, rfl, HE.out⟩
theorem rsend_room (base b : Nat) (dp : Int) (xs : List Int) (ls : Int) (u : Value) (n : Int) (w : World) (hR : Rl w base b 2 dp xs ls u) (hdp : (xs.length : Int) < dp) (hx : xs.length ≤ 1000000) :
    Calls Tryz.prog 59 #[.pointer (some ⟨b, 0, none⟩), .int .i64 n] w fun e w' => ∃ u', e = .returned (.bool true) ∧ Rl w' base b 2 dp (xs ++ [n]) ls u' ∧ RTouch w w' b u u' := by
  rcases hR.rd with ⟨rfl, ao, cap, rfl⟩ | ⟨g, off, cap, rfl, _, _, _, hc⟩
  · exact rsend_first base b dp ls ao cap n w hR (by simpa using hdp)
  · exact rsend_more base b dp xs ls g off cap n w hR hdp hx hc

set_option maxRecDepth 100000 in
set_option maxHeartbeats 4000000 in
theorem rtake_none (base b : Nat) (kd dp : Int) (ls : Int) (u : Value) (w : World) (hR : Rl w base b kd dp [] ls u) :
    Calls Tryz.prog 57 #[.pointer (some ⟨b, 0, none⟩)] w fun e w' => e = .returned (.tuple #[.int .i64 0, .bool false]) ∧ w' = w := by
  have hlt := hR.c.lt
  obtain ⟨ao, cap, rfl⟩ := hR.rd.form
  obtain ⟨c0, c1, c2, c3, f2, f3⟩ := hR.c
  clear hR
  go_enter Tryz.func57, Tryz.ntmps57
  go_wp2
  go_ret2
  exact ⟨rfl, rfl⟩
theorem Rd.cons {w : World} {v : Value} {x : Int} {ys : List Int} (h : Rd w v (x :: ys)) : ∃ g off cap, v = .slice (some ⟨g, off, none⟩) (ys.length + 1) cap ∧ ys.length + 1 ≤ cap ∧ cap ≤ maxLen ∧ g < w.heap.size ∧ w.cell? ⟨g, off, none⟩ = some (.int .i64 x) ∧ ∀ (i : Nat) y, ys[i]? = some y → w.cell? ⟨g, off + 1 + i, none⟩ = some (.int .i64 y) := by
  rcases h with ⟨h, _⟩ | ⟨g, off, cap, rfl, h1, h2, h3, h4⟩
  · cases h
  · exact ⟨g, off, cap, rfl, h1, h2, h3, h4 0 x rfl, fun i y hy => by rw [show off + 1 + i = off + (i + 1) by omega]; exact h4 (i + 1) y (by simpa using hy)⟩
set_option maxRecDepth 100000 in
set_option maxHeartbeats 4000000 in
theorem rtake_sample (base b : Nat) (dp : Int) (x : Int) (ys : List Int) (ls : Int) (u : Value) (w : World) (hR : Rl w base b 1 dp (x :: ys) ls u) :
    Calls Tryz.prog 57 #[.pointer (some ⟨b, 0, none⟩)] w fun e w' => e = .returned (.tuple #[.int .i64 x, .bool true]) ∧ w' = w := by
  have hlt := hR.c.lt
  obtain ⟨g, off, cap, rfl, h1, h2, h3, h4, _⟩ := hR.rd.cons
  obtain ⟨c0, c1, c2, c3, f2, f3⟩ := hR.c
  have hz : ¬ ((ys.length : Int) + 1 = 0) := by omega
  clear hR
  go_enter Tryz.func57, Tryz.ntmps57
  go_wp2
  go_ret2
  exact ⟨rfl, rfl⟩
set_option maxRecDepth 100000 in
set_option maxHeartbeats 4000000 in
theorem rtake_queue (base b : Nat) (dp : Int) (x : Int) (ys : List Int) (ls : Int) (u : Value) (w : World) (hR : Rl w base b 2 dp (x :: ys) ls u) :
    Calls Tryz.prog 57 #[.pointer (some ⟨b, 0, none⟩)] w fun e w' => ∃ u', e = .returned (.tuple #[.int .i64 x, .bool true]) ∧ Rl w' base b 2 dp ys ls u' ∧ RTouch w w' b u u' := by
  have hlt := hR.c.lt
  have HR : Hid (Rl w base b 2 dp (x :: ys) ls u) := hR
  obtain ⟨g, off, cap, rfl, h1, h2, h3, h4, h5⟩ := hR.rd.cons
  obtain ⟨c0, c1, c2, c3, f2, f3⟩ := hR.c
  have hz : ¬ ((ys.length : Int) + 1 = 0) := by omega
  have h1i : (1 : Int) ≤ (ys.length : Int) + 1 := by omega
  have h1c : 1 ≤ cap := by omega
  have H5 : Hid (∀ (i : Nat) y, ys[i]? = some y → w.cell? ⟨g, off + 1 + i, none⟩ = some (.int .i64 y)) := h5
  clear hR h5
  unfold maxLen at h2
  have hown := HR.out.own g rfl
  by_cases hc1 : cap = 1
  · subst hc1
    obtain rfl : ys = [] := List.eq_nil_of_length_eq_zero (by omega)
    go_enter Tryz.func57, Tryz.ntmps57
    go_wp2
    go_ret2
    exact ⟨_, rfl, ⟨HR.out.c.items _, Or.inl ⟨rfl, _, _, rfl⟩, fun k hk => by obtain rfl := Option.some.inj hk; simpa using hown, HR.out.lt, by have := HR.out.le; simpa using this⟩, ((RTouch.refl w b _).set 4 _).as (fun k hk => Or.inl hk)⟩
  · go_enter Tryz.func57, Tryz.ntmps57
    go_wp2
    go_ret2
    refine ⟨_, rfl, ⟨HR.out.c.items _, Or.inr ⟨g, off + 1, cap - 1, rfl, by omega, by unfold maxLen; omega, by simpa using h3, fun i y hy => ?_⟩, fun k hk => by obtain rfl := Option.some.inj hk; simpa using hown, HR.out.lt, by have := HR.out.le; simpa using this⟩, ((RTouch.refl w b _).set 4 _).as (fun k hk => Or.inl hk)⟩
    have hgb : g ≠ b := by have := HR.out.lt; omega
    exact (World.cell?_of_block (w := w) (a := ⟨g, off + 1 + i, none⟩) (Below.heap_setCell _ _ _ _ hgb)).trans (H5.out i y hy)
end Go.Proofs.YtajfgmlockjmhaeGreatDoor
