/-
  WRefL, KRefW, KRefL, KRefPk, KRefPoke: joined into one text.
-/
import Derived.Test.YtajfgmlockjmhaiGreatDoorJk2
import Derived.Test.YtajfgmlockjmhaiGreatDoorJk3
import Derived.Test.YtajfgmlockjmhaiGreatDoorJk1
import Derived.BigQuiet
import Derived.Deep.CutRange
import Derived.Deep.RegionWith
import Derived.RangeFuncNested
namespace Go.Proofs.YtajfgmlockjmhaiGreatDoor
open Go.RowKit

/-- The cells of the document's line. -/
def RlC (w : World) (b : Nat) (kd dp ls : Int) (u : Value) : Prop := w.cell? ⟨b, 2, none⟩ = some (.int .i64 kd) ∧ w.cell? ⟨b, 3, none⟩ = some (.int .i64 dp) ∧ w.cell? ⟨b, 4, none⟩ = some u ∧ w.cell? ⟨b, 5, none⟩ = some (.int .i64 ls) ∧ w.frozen? ⟨b, 4, none⟩ = false ∧ w.frozen? ⟨b, 5, none⟩ = false
theorem RlC.block {w w' : World} {b : Nat} {kd dp ls : Int} {v : Value} (h : RlC w b kd dp ls v) (hb : w'.heap[b]? = w.heap[b]?) : RlC w' b kd dp ls v := by
  have hc := fun o => World.cell?_of_block (w := w) (w' := w') (a := ⟨b, o, none⟩) hb
  have hf := fun o => World.frozen?_of_block (w := w) (w' := w') (a := ⟨b, o, none⟩) hb
  unfold RlC
  simp only [hc, hf]
  exact h
theorem RlC.items {w : World} {b : Nat} {kd dp ls : Int} {v : Value} (h : RlC w b kd dp ls v) (u : Value) : RlC (w.setCell ⟨b, 4, none⟩ u) b kd dp ls u := by
  obtain ⟨c0, c1, c2, c3, f2, f3⟩ := h
  refine ⟨?_, ?_, ?_, ?_, ?_, ?_⟩ <;> simp [go_sem, c0, c1, c2, c3, f2, f3]
theorem RlC.lost {w : World} {b : Nat} {kd dp ls : Int} {v : Value} (h : RlC w b kd dp ls v) (n : Int) : RlC (w.setCell ⟨b, 5, none⟩ (.int .i64 n)) b kd dp n v := by
  obtain ⟨c0, c1, c2, c3, f2, f3⟩ := h
  refine ⟨?_, ?_, ?_, ?_, ?_, ?_⟩ <;> simp [go_sem, c0, c1, c2, c3, f2, f3]
theorem RlC.lt {w : World} {b : Nat} {kd dp ls : Int} {v : Value} (h : RlC w b kd dp ls v) : b < w.heap.size := wlt h.1
/-- The document's line: its block lies ahead of 'base', its numbers from 'base' on. -/
structure Rl (w : World) (base b : Nat) (kd dp : Int) (xs : List Int) (ls : Int) (u : Value) : Prop where
  c : RlC w b kd dp ls u
  rd : Rd w u xs
  own : ∀ k, u.ownBlock = some k → base ≤ k ∧ k < w.heap.size
  lt : b < base
  le : base ≤ w.heap.size
/-- What a call on it changes: its block alone; and it makes memory. -/
structure RTouch (w w' : World) (b : Nat) (u u' : Value) : Prop where
  os : w'.os = w.os
  tape : w'.tape = w.tape
  output : w'.output = w.output
  size : w.heap.size ≤ w'.heap.size
  block : ∀ k, k < w.heap.size → k ≠ b → w'.heap[k]? = w.heap[k]?
  new : ∀ k, u'.ownBlock = some k → u.ownBlock = some k ∨ w.heap.size ≤ k
  head : b < w.heap.size → ∀ o, o < 4 → w'.cell? ⟨b, o, none⟩ = w.cell? ⟨b, o, none⟩
theorem RTouch.refl (w : World) (b : Nat) (u : Value) : RTouch w w b u u := ⟨rfl, rfl, rfl, Nat.le_refl _, fun _ _ _ => rfl, fun _ h => Or.inl h, fun _ _ _ => rfl⟩
theorem RTouch.below {w w' : World} {b B : Nat} {u u' : Value} (h : RTouch w w' b u u') (hb : B ≤ b) (hB : B ≤ w.heap.size) : Below B w w' :=
  ⟨h.os, h.tape, h.output, h.size, fun k hk => h.block k (by omega) (by omega)⟩
theorem RTouch.set {w w' : World} {b : Nat} {u u' : Value} (h : RTouch w w' b u u') (i : Nat) (x : Value) (hi : 4 ≤ i := by decide) : RTouch w (w'.setCell ⟨b, i, none⟩ x) b u u' :=
  ⟨h.os, h.tape, h.output, by have := h.size; simpa using this, fun k hk hb => by rw [Below.heap_setCell _ _ _ _ hb]; exact h.block k hk hb, h.new, fun hb o ho => (World.cell?_setCell_other _ _ _ _ (fun e => by injection e with e1 e2; omega)).trans (h.head hb o ho)⟩
theorem RTouch.of {w w' : World} {b : Nat} {u u' : Value} (h : Below w.heap.size w w') (hn : ∀ k, u'.ownBlock = some k → u.ownBlock = some k ∨ w.heap.size ≤ k) : RTouch w w' b u u' :=
  ⟨h.os, h.tape, h.output, h.size, fun k hk _ => h.block k hk, hn, fun hb o _ => h.cell (p := ⟨b, o, none⟩) hb⟩

theorem RTouch.alloc {w w' : World} {b : Nat} {u u' : Value} (h : RTouch w w' b u u') (o : Obj) : RTouch w (w'.alloc o) b u u' :=
  ⟨h.os, h.tape, h.output, by have := h.size; simp; omega, fun k hk hb => by rw [Below.heap_alloc _ _ _ (Nat.lt_of_lt_of_le hk h.size)]; exact h.block k hk hb, h.new, fun hb p hp => (World.cell?_of_block (w := w') (a := ⟨b, p, none⟩) (Below.heap_alloc _ _ _ (Nat.lt_of_lt_of_le hb h.size))).trans (h.head hb p hp)⟩
theorem RTouch.as {w w' : World} {b : Nat} {u u' u2 : Value} (h : RTouch w w' b u u') (hn : ∀ k, u2.ownBlock = some k → u.ownBlock = some k ∨ w.heap.size ≤ k) : RTouch w w' b u u2 := ⟨h.os, h.tape, h.output, h.size, h.block, hn, h.head⟩

set_option maxRecDepth 100000 in
set_option maxHeartbeats 4000000 in
theorem rsend_sample (base b : Nat) (dp : Int) (xs : List Int) (ls : Int) (u : Value) (n : Int) (w : World) (hR : Rl w base b 1 dp xs ls u) :
    Calls Tryz.prog 133 #[.pointer (some ⟨b, 0, none⟩), .int .i64 n] w fun e w' => ∃ u', e = .returned (.bool true) ∧ Rl w' base b 1 dp [n] ls u' ∧ RTouch w w' b u u' := by
  have hlt := hR.c.lt
  have HR : Hid (Rl w base b 1 dp xs ls u) := hR
  obtain ⟨ao, cap, rfl⟩ := hR.rd.form
  obtain ⟨c0, c1, c2, c3, f2, f3⟩ := hR.c
  clear c1 c3 f3 hR
  have hne : b ≠ w.heap.size := by omega
  go_enter Tryz.func133, Tryz.ntmps133
  go_wp2
  go_ret
  refine ⟨.slice (some ⟨w.heap.size, 0, none⟩) 1 1, rfl, ⟨(HR.out.c.items _).block (Below.heap_alloc _ _ _ (by simpa using hlt)), Or.inr ⟨w.heap.size, 0, 1, rfl, Nat.le_refl _, by unfold maxLen; decide, by simp, fun i x hx => ?_⟩, fun k hk => ?_, HR.out.lt, by have := HR.out.le; simp; omega⟩, ?_⟩
  · match i, hx with
    | 0, hx => simp at hx; subst hx; simp [go_sem]
  · simp only [Value.ownBlock, Option.some.injEq] at hk
    have := HR.out.le
    simp
    omega
  · exact (((RTouch.refl w b _).set 4 _).alloc _).as (fun k hk => by simp only [Value.ownBlock, Option.some.injEq] at hk; right; omega)

set_option maxRecDepth 100000 in
set_option maxHeartbeats 4000000 in
theorem rsend_full (base b : Nat) (dp : Int) (xs : List Int) (ls : Int) (u : Value) (n : Int) (w : World) (hls : 0 ≤ ls ∧ ls < 1000000000) (hR : Rl w base b 2 dp xs ls u) (hdp : dp ≤ (xs.length : Int)) :
    Calls Tryz.prog 133 #[.pointer (some ⟨b, 0, none⟩), .int .i64 n] w fun e w' => e = .returned (.bool false) ∧ Rl w' base b 2 dp xs (ls + 1) u ∧ RTouch w w' b u u := by
  have hlt := hR.c.lt
  have HR : Hid (Rl w base b 2 dp xs ls u) := hR
  obtain ⟨ao, cap, rfl⟩ := hR.rd.form
  obtain ⟨c0, c1, c2, c3, f2, f3⟩ := hR.c
  obtain ⟨hls0, hls1⟩ := hls
  have hd : decide ((xs.length : Int) < dp) = false := by simp; omega
  clear hR
  go_enter Tryz.func133, Tryz.ntmps133
  go_wp2
  go_quiet (fail)
  go_wp2
  go_ret
  have hB := below_dN (Below.refl w.heap.size w) nq
  exact ⟨rfl, ⟨(HR.out.c.block (hB.block b hlt)).lost _, HR.out.rd.block (fun k _ hk => by rw [Below.heap_setCell _ _ _ _ (by have := HR.out.own k hk; have := HR.out.lt; show k ≠ b; omega)]; rfl) (by simp), fun k hk => by have := HR.out.own k hk; simp; omega, HR.out.lt, by have := HR.out.le; simpa using this⟩, (RTouch.of hB (fun k hk => Or.inl hk)).set 5 _⟩

/-- Behind both appends, and the store. -/
theorem room_end {w w2 : World} {base b : Nat} {dp ls n : Int} {xs : List Int} {u v1 : Value} (hR : Rl w base b 2 dp xs ls u) (hB : Below w.heap.size w w2) (own1 : w2.ownsRow w.heap.size 3 1 v1 (xs.length + 1) (ints xs ++ [.int .i64 n])) :
    Rl (w2.setCell ⟨b, 4, none⟩ v1) base b 2 dp (xs ++ [n]) ls v1 ∧ RTouch w (w2.setCell ⟨b, 4, none⟩ v1) b u v1 := by
  have hlt := hR.c.lt
  have own2 := ownsRow_setCell_below own1 (a := ⟨b, 4, none⟩) hlt v1
  refine ⟨⟨(hR.c.block (hB.block b hlt)).items _, Rd.own (base := w.heap.size) (by rw [ints_snoc, List.length_append]; exact own2), fun k hk => ?_, hR.lt, by have := hR.le; have := hB.size; simp; omega⟩, ?_⟩
  · have := own1.lt k hk
    have := hR.le
    simp
    omega
  · exact (RTouch.of hB (fun k hk => Or.inr (own1.lt k hk).1)).set 4 _

set_option maxRecDepth 100000 in
set_option maxHeartbeats 4000000 in
theorem rsend_first (base b : Nat) (dp : Int) (ls : Int) (ao : Option Addr) (cap : Nat) (n : Int) (w : World) (hR : Rl w base b 2 dp [] ls (.slice ao 0 cap)) (hdp : 0 < dp) :
    Calls Tryz.prog 133 #[.pointer (some ⟨b, 0, none⟩), .int .i64 n] w fun e w' => ∃ u', e = .returned (.bool true) ∧ Rl w' base b 2 dp [n] ls u' ∧ RTouch w w' b (.slice ao 0 cap) u' := by
  obtain ⟨ii, hi, hz0, hz1, hz2⟩ := info_parts infoInt
  have hlt := hR.c.lt
  have HR : Hid (Rl w base b 2 dp [] ls (.slice ao 0 cap)) := hR
  obtain ⟨c0, c1, c2, c3, f2, f3⟩ := hR.c
  clear hR
  go_enter Tryz.func133, Tryz.ntmps133
  go_wp2
  go_quiet (fail)
  have hB := below_dN (Below.refl w.heap.size w) nq
  go_wp2_with (first | (at_builtin; refine wpList_append_eq rfl _ _ 58 rfl (.slice none 0 0) (.slice ao 0 cap) rfl rfl (.slice none 0 0) _ (append_none ao cap _ _) ?_) | (at_builtin; refine wpList_append_at _ rfl _ _ 58 rfl w.heap.size 3 ii (.int .i64 0) 1 8 Tryz.underlying58 hi hz0 hz1 hz2 rfl (by decide) _ _ _ rfl (World.ownsRow_nil _ _ _ _) ⟨w.heap.size, 0, none⟩ 1 1 [.int .i64 n] rfl rfl ?c1A ?c2A ?c3A ?c4A ?c5A ?_))
  case c1A => exact one_new_at (by simp) _ _
  case c2A => exact one_one n
  case c3A => unfold maxLen; simp
  case c4A => simp
  case c5A => simp
  intro v1 w2 own1 hg1 hat1
  have hB2 : Below w.heap.size w w2 := (hB.alloc (by simp) _).grown hg1 (by simp) (by intro k hk; cases hk)
  have HE : Hid (Rl (w2.setCell ⟨b, 4, none⟩ v1) base b 2 dp ([] ++ [n]) ls v1 ∧ RTouch w (w2.setCell ⟨b, 4, none⟩ v1) b (.slice ao 0 cap) v1) := room_end HR.out hB2 own1
  have hc2 := HR.out.c.block (hB2.block b hlt)
  obtain ⟨k0, k1, k2, k3, k4, k5⟩ := hc2
  have hlt2 : b < w2.heap.size := Nat.lt_of_lt_of_le hlt hB2.size
  obtain ⟨g1, cap1, rfl⟩ : ∃ g cap, v1 = .slice (some ⟨g, 0, none⟩) 1 cap := by
    rcases row_form own1 with ⟨_, h⟩ | h
    · simp at h
    · simpa using h
  clear own1 hg1 hat1 c0 c1 c2 c3 f2 f3 k0 k1 k3 k5
  go_wp2
  go_ret
  exact ⟨_, rfl, HE.out⟩

set_option maxRecDepth 100000 in
set_option maxHeartbeats 4000000 in
theorem rsend_more (base b : Nat) (dp : Int) (xs : List Int) (ls : Int) (g off cap : Nat) (n : Int) (w : World) (hR : Rl w base b 2 dp xs ls (.slice (some ⟨g, off, none⟩) xs.length cap)) (hdp : (xs.length : Int) < dp) (hx : xs.length ≤ 1000000) (hc : ∀ (i : Nat) x, xs[i]? = some x → w.cell? ⟨g, off + i, none⟩ = some (.int .i64 x)) :
    Calls Tryz.prog 133 #[.pointer (some ⟨b, 0, none⟩), .int .i64 n] w fun e w' => ∃ u', e = .returned (.bool true) ∧ Rl w' base b 2 dp (xs ++ [n]) ls u' ∧ RTouch w w' b (.slice (some ⟨g, off, none⟩) xs.length cap) u' := by
  obtain ⟨ii, hi, hz0, hz1, hz2⟩ := info_parts infoInt
  have hlt := hR.c.lt
  have HR : Hid (Rl w base b 2 dp xs ls (.slice (some ⟨g, off, none⟩) xs.length cap)) := hR
  have HC : Hid (∀ (i : Nat) x, xs[i]? = some x → w.cell? ⟨g, off + i, none⟩ = some (.int .i64 x)) := hc
  obtain ⟨c0, c1, c2, c3, f2, f3⟩ := hR.c
  clear hR hc
  go_enter Tryz.func133, Tryz.ntmps133
  go_wp2
  go_quiet (fail)
  have hB := below_dN (Below.refl w.heap.size w) nq
  go_wp2_with (at_builtin; refine wpList_append_at _ rfl _ _ 58 rfl w.heap.size 3 ii (.int .i64 0) 1 8 Tryz.underlying58 hi hz0 hz1 hz2 rfl (by decide) _ _ _ rfl (World.ownsRow_nil _ _ _ _) ⟨g, off, none⟩ xs.length cap (ints xs) rfl ?c0A ?c1A ?c2A ?c3A ?c4A ?c5A ?_)
  case c0A => rw [ints_len, Nat.mul_one]
  case c1A =>
    intro j x hj
    rw [Addr.add_lit]
    have hjl : j < xs.length := by have := (List.getElem?_eq_some_iff.1 hj).1; rwa [ints_len] at this
    have h1 := HC.out j xs[j] (List.getElem?_eq_getElem hjl)
    rw [ints_at (List.getElem?_eq_getElem hjl)] at hj
    have h2 := (hB.cell (p := ⟨g, off + j, none⟩) (wlt h1)).trans h1
    rw [h2]
    exact hj
  case c2A => intro x hx; obtain ⟨y, _, rfl⟩ := List.mem_map.1 hx; rfl
  case c3A => unfold maxLen; omega
  case c4A => omega
  case c5A => simp
  intro v1 w2 own1 hg1 hat1
  have hB2 : Below w.heap.size w w2 := hB.grown hg1 (by simp) (by intro k hk; cases hk)
  obtain ⟨k0, k1, k2, k3, k4, k5⟩ := HR.out.c.block (hB2.block b hlt)
  have hs2 : w.heap.size ≤ w2.heap.size := hB2.size
  have hlt2 : b < w2.heap.size := Nat.lt_of_lt_of_le hlt hB2.size
  obtain ⟨a1, cap1, rfl⟩ : ∃ ao cap, v1 = .slice ao xs.length cap := by
    rcases row_form own1 with ⟨rfl, h⟩ | ⟨g', cap', rfl⟩
    · exact ⟨_, _, by rw [h]⟩
    · exact ⟨_, _, rfl⟩
  clear hg1 hat1 c0 c1 c2 c3 f2 f3 k0 k1 k3 k5
  go_wp2_with (at_builtin; refine wpList_append_at _ rfl _ _ 58 rfl w.heap.size 3 ii (.int .i64 0) 1 8 Tryz.underlying58 hi hz0 hz1 hz2 rfl (by decide) _ _ _ rfl (own1.alloc _) ⟨w2.heap.size, 0, none⟩ 1 1 [.int .i64 n] rfl rfl ?d1A ?d2A ?d3A ?d4A ?d5A ?_)
  case d1A => exact one_new_at rfl _ _
  case d2A => exact one_one n
  case d3A => unfold maxLen; omega
  case d4A => omega
  case d5A => simp; omega
  intro v3 w3 own3 hg3 hat3
  have hB3 : Below w.heap.size w w3 := (hB2.alloc hs2 _).grown hg3 (by simp; omega) (by intro k hk; exact (own1.lt k hk).1)
  have HE : Hid (Rl (w3.setCell ⟨b, 4, none⟩ v3) base b 2 dp (xs ++ [n]) ls v3 ∧ RTouch w (w3.setCell ⟨b, 4, none⟩ v3) b (.slice (some ⟨g, off, none⟩) xs.length cap) v3) := room_end HR.out hB3 own3
  obtain ⟨j0, j1, j2, j3, j4, j5⟩ := HR.out.c.block (hB3.block b hlt)
  have hlt3 : b < w3.heap.size := Nat.lt_of_lt_of_le hlt hB3.size
  obtain ⟨g3, cap3, rfl⟩ : ∃ g cap, v3 = .slice (some ⟨g, 0, none⟩) (xs.length + 1) cap := by
    rcases row_form own3 with ⟨_, h⟩ | h
    · omega
    · exact h
  clear own3 own1 hg3 hat3 k2 k4 j0 j1 j3 j5
  go_wp2
  go_ret
  exact ⟨_, rfl, HE.out⟩
theorem rsend_room (base b : Nat) (dp : Int) (xs : List Int) (ls : Int) (u : Value) (n : Int) (w : World) (hR : Rl w base b 2 dp xs ls u) (hdp : (xs.length : Int) < dp) (hx : xs.length ≤ 1000000) :
    Calls Tryz.prog 133 #[.pointer (some ⟨b, 0, none⟩), .int .i64 n] w fun e w' => ∃ u', e = .returned (.bool true) ∧ Rl w' base b 2 dp (xs ++ [n]) ls u' ∧ RTouch w w' b u u' := by
  rcases hR.rd with ⟨rfl, ao, cap, rfl⟩ | ⟨g, off, cap, rfl, _, _, _, hc⟩
  · exact rsend_first base b dp ls ao cap n w hR (by simpa using hdp)
  · exact rsend_more base b dp xs ls g off cap n w hR hdp hx hc

set_option maxRecDepth 100000 in
set_option maxHeartbeats 4000000 in
theorem rtake_none (base b : Nat) (kd dp : Int) (ls : Int) (u : Value) (w : World) (hR : Rl w base b kd dp [] ls u) :
    Calls Tryz.prog 131 #[.pointer (some ⟨b, 0, none⟩)] w fun e w' => e = .returned (.tuple #[.int .i64 0, .bool false]) ∧ w' = w := by
  have hlt := hR.c.lt
  obtain ⟨ao, cap, rfl⟩ := hR.rd.form
  obtain ⟨c0, c1, c2, c3, f2, f3⟩ := hR.c
  clear hR
  go_enter Tryz.func131, Tryz.ntmps131
  go_wp2
  go_ret2
  exact ⟨rfl, rfl⟩
theorem Rd.cons {w : World} {v : Value} {x : Int} {ys : List Int} (h : Rd w v (x :: ys)) : ∃ g off cap, v = .slice (some ⟨g, off, none⟩) (ys.length + 1) cap ∧ ys.length + 1 ≤ cap ∧ cap ≤ maxLen ∧ g < w.heap.size ∧ w.cell? ⟨g, off, none⟩ = some (.int .i64 x) ∧ ∀ (i : Nat) y, ys[i]? = some y → w.cell? ⟨g, off + 1 + i, none⟩ = some (.int .i64 y) := by
  rcases h with ⟨h, _⟩ | ⟨g, off, cap, rfl, h1, h2, h3, h4⟩
  · cases h
  · exact ⟨g, off, cap, rfl, h1, h2, h3, h4 0 x rfl, fun i y hy => by rw [show off + 1 + i = off + (i + 1) by omega]; exact h4 (i + 1) y (by simpa using hy)⟩
set_option maxRecDepth 100000 in
set_option maxHeartbeats 4000000 in
theorem rtake_sample (base b : Nat) (dp : Int) (x : Int) (ys : List Int) (ls : Int) (u : Value) (w : World) (hR : Rl w base b 1 dp (x :: ys) ls u) :
    Calls Tryz.prog 131 #[.pointer (some ⟨b, 0, none⟩)] w fun e w' => e = .returned (.tuple #[.int .i64 x, .bool true]) ∧ w' = w := by
  have hlt := hR.c.lt
  obtain ⟨g, off, cap, rfl, h1, h2, h3, h4, _⟩ := hR.rd.cons
  obtain ⟨c0, c1, c2, c3, f2, f3⟩ := hR.c
  have hz : ¬ ((ys.length : Int) + 1 = 0) := by omega
  clear hR
  go_enter Tryz.func131, Tryz.ntmps131
  go_wp2
  go_ret2
  exact ⟨rfl, rfl⟩
set_option maxRecDepth 100000 in
set_option maxHeartbeats 4000000 in
theorem rtake_queue (base b : Nat) (dp : Int) (x : Int) (ys : List Int) (ls : Int) (u : Value) (w : World) (hR : Rl w base b 2 dp (x :: ys) ls u) :
    Calls Tryz.prog 131 #[.pointer (some ⟨b, 0, none⟩)] w fun e w' => ∃ u', e = .returned (.tuple #[.int .i64 x, .bool true]) ∧ Rl w' base b 2 dp ys ls u' ∧ RTouch w w' b u u' := by
  have hlt := hR.c.lt
  have HR : Hid (Rl w base b 2 dp (x :: ys) ls u) := hR
  obtain ⟨g, off, cap, rfl, h1, h2, h3, h4, h5⟩ := hR.rd.cons
  obtain ⟨c0, c1, c2, c3, f2, f3⟩ := hR.c
  have hz : ¬ ((ys.length : Int) + 1 = 0) := by omega
  have h1i : (1 : Int) ≤ (ys.length : Int) + 1 := by omega
  have h1c : 1 ≤ cap := by omega
  have H5 : Hid (∀ (i : Nat) y, ys[i]? = some y → w.cell? ⟨g, off + 1 + i, none⟩ = some (.int .i64 y)) := h5
  clear hR h5
  unfold maxLen at h2
  have hown := HR.out.own g rfl
  by_cases hc1 : cap = 1
  · subst hc1
    obtain rfl : ys = [] := List.eq_nil_of_length_eq_zero (by omega)
    go_enter Tryz.func131, Tryz.ntmps131
    go_wp2
    go_ret2
    exact ⟨_, rfl, ⟨HR.out.c.items _, Or.inl ⟨rfl, _, _, rfl⟩, fun k hk => by obtain rfl := Option.some.inj hk; simpa using hown, HR.out.lt, by have := HR.out.le; simpa using this⟩, ((RTouch.refl w b _).set 4 _).as (fun k hk => Or.inl hk)⟩
  · go_enter Tryz.func131, Tryz.ntmps131
    go_wp2
    go_ret2
    refine ⟨_, rfl, ⟨HR.out.c.items _, Or.inr ⟨g, off + 1, cap - 1, rfl, by omega, by unfold maxLen; omega, by simpa using h3, fun i y hy => ?_⟩, fun k hk => by obtain rfl := Option.some.inj hk; simpa using hown, HR.out.lt, by have := HR.out.le; simpa using this⟩, ((RTouch.refl w b _).set 4 _).as (fun k hk => Or.inl hk)⟩
    have hgb : g ≠ b := by have := HR.out.lt; omega
    exact (World.cell?_of_block (w := w) (a := ⟨g, off + 1 + i, none⟩) (Below.heap_setCell _ _ _ _ hgb)).trans (H5.out i y hy)
end Go.Proofs.YtajfgmlockjmhaiGreatDoor
namespace Go.Proofs.YtajfgmlockjmhaiGreatDoor
open Go.RowKit

theorem KTouch.line {M : List Nat} {w w' : World} {b : Nat} {u u' : Value} (h : RTouch w w' b u u') (hb : b ∈ M) : KTouch M w w' := ⟨h.os, h.tape, h.output, h.size, fun k hk hm => h.block k hk (fun e => hm (by rw [e]; exact hb))⟩
/-- A line is as it was where another one was touched. -/
theorem Rl.other {w w' : World} {b1 b' : Nat} {kd dp ls : Int} {xs : List Int} {u : Value} (h : Rl w b1 b' kd dp xs ls u) {M : List Nat} (ht : KTouch M w w') (hb : b' ∉ M) (hM : ∀ m ∈ M, m < b1) : Rl w' b1 b' kd dp xs ls u := by
  have hlt := h.c.lt
  refine ⟨h.c.block (ht.block b' hlt hb), h.rd.block (fun k hk hown => ht.block k hk (fun hm => ?_)) ht.size, fun k hk => ?_, h.lt, Nat.le_trans h.le ht.size⟩
  · have := (h.own k hown).1
    have := hM k hm
    omega
  · have := h.own k hk
    have := ht.size
    omega
/-- From where a line leads, and whereto. -/
def Ft (w : World) (bs : List Nat) (ws : List W4) : Prop := ∀ (i : Nat) b x, bs[i]? = some b → ws[i]? = some x → w.cell? ⟨b, 0, none⟩ = some (.int .i64 x.1) ∧ w.cell? ⟨b, 1, none⟩ = some (.int .i64 x.2.1)
theorem Ft.block {w w' : World} {bs : List Nat} {ws : List W4} (h : Ft w bs ws) (hb : ∀ b ∈ bs, w'.heap[b]? = w.heap[b]?) : Ft w' bs ws := fun i b x hi hx => by
  have hc := fun o => World.cell?_of_block (w := w) (w' := w') (a := ⟨b, o, none⟩) (hb b (List.mem_of_getElem? hi))
  obtain ⟨h0, h1⟩ := h i b x hi hx
  exact ⟨(hc 0).trans h0, (hc 1).trans h1⟩
/-- Where a kernel lies. -/
structure KW where
  kb : Nat
  rb : Nat
  rcap : Nat
  lv : Value
  lr : Nat
  b1 : Nat
  bs : List Nat
  us : List Value
def KW.m (a : KW) : List Nat := a.kb :: a.rb :: a.bs
structure RK (w : World) (base : Nat) (p : PD) (vc vs vw : Value) (k : KD) (a : KW) : Prop where
  c0 : w.cell? ⟨a.kb, 0, none⟩ = some vc
  c1 : w.cell? ⟨a.kb, 1, none⟩ = some (.int .i64 p.ticks)
  c2 : w.cell? ⟨a.kb, 2, none⟩ = some vs
  c3 : w.cell? ⟨a.kb, 3, none⟩ = some vw
  c4 : w.cell? ⟨a.kb, 4, none⟩ = some (.slice (some ⟨a.rb, 0, none⟩) k.rooms.length a.rcap)
  c5 : w.cell? ⟨a.kb, 5, none⟩ = some a.lv
  c6 : w.cell? ⟨a.kb, 6, none⟩ = some (.int .i64 k.time)
  f6 : w.frozen? ⟨a.kb, 6, none⟩ = false
  rooms : ∀ (i : Nat) s, k.rooms[i]? = some s → StC w a.rb (i * 8) s
  rf : ∀ o, w.frozen? ⟨a.rb, o, none⟩ = false
  lv : (k.lines = [] ∧ a.lv = .slice none 0 0) ∨ ∃ cap, a.lv = .slice (some ⟨a.lr, 0, none⟩) k.lines.length cap ∧ k.lines.length ≤ cap
  ptr : ∀ (i : Nat) b, a.bs[i]? = some b → w.cell? ⟨a.lr, i, none⟩ = some (.pointer (some ⟨b, 0, none⟩))
  bl : a.bs.length = k.lines.length
  ul : a.us.length = k.lines.length
  line : ∀ (i : Nat) l b u, k.lines[i]? = some l → a.bs[i]? = some b → a.us[i]? = some u → Rl w a.b1 b l.w.2.2.1 l.w.2.2.2 l.xs l.ls u
  ge : base ≤ a.kb ∧ base ≤ a.rb ∧ ∀ b ∈ a.bs, base ≤ b
  lt : a.kb < a.b1 ∧ a.rb < a.b1 ∧ a.lr < a.b1 ∧ ∀ b ∈ a.bs, b < a.b1
  le : a.b1 ≤ w.heap.size
  apart : a.kb ≠ a.rb ∧ (a.lr ≠ a.kb ∨ k.lines = []) ∧ (a.lr ≠ a.rb ∨ k.lines = []) ∧ ∀ b ∈ a.bs, b ≠ a.kb ∧ b ≠ a.rb ∧ b ≠ a.lr
  two : ∀ (i j : Nat) b b', i < j → a.bs[i]? = some b → a.bs[j]? = some b' → b ≠ b'
  ft : Ft w a.bs p.wires
theorem RK.mge {w : World} {base : Nat} {p : PD} {vc vs vw : Value} {k : KD} {a : KW} (h : RK w base p vc vs vw k a) : ∀ b ∈ a.m, base ≤ b := fun b hb => by
  unfold KW.m at hb
  rcases List.mem_cons.1 hb with rfl | hb
  · exact h.ge.1
  · rcases List.mem_cons.1 hb with rfl | hb
    · exact h.ge.2.1
    · exact h.ge.2.2 b hb
theorem RK.mlt {w : World} {base : Nat} {p : PD} {vc vs vw : Value} {k : KD} {a : KW} (h : RK w base p vc vs vw k a) : ∀ b ∈ a.m, b < a.b1 := fun b hb => by
  unfold KW.m at hb
  rcases List.mem_cons.1 hb with rfl | hb
  · exact h.lt.1
  · rcases List.mem_cons.1 hb with rfl | hb
    · exact h.lt.2.1
    · exact h.lt.2.2.2 b hb
/-- Nothing of the kernel is touched. -/
theorem RK.all {w w' : World} {base : Nat} {p : PD} {vc vs vw : Value} {k : KD} {a : KW} (h : RK w base p vc vs vw k a) (hb : Below w.heap.size w w') : RK w' base p vc vs vw k a := by
  have hk : ∀ b, b < a.b1 → w'.heap[b]? = w.heap[b]? := fun b hlt => hb.block b (Nat.lt_of_lt_of_le hlt h.le)
  have hc := fun o => World.cell?_of_block (w := w) (w' := w') (a := ⟨a.kb, o, none⟩) (hk _ h.lt.1)
  have hf := fun o => World.frozen?_of_block (w := w) (w' := w') (a := ⟨a.kb, o, none⟩) (hk _ h.lt.1)
  have hrf := fun o => World.frozen?_of_block (w := w) (w' := w') (a := ⟨a.rb, o, none⟩) (hk _ h.lt.2.1)
  have hlr := fun o => World.cell?_of_block (w := w) (w' := w') (a := ⟨a.lr, o, none⟩) (hk _ h.lt.2.2.1)
  refine ⟨(hc 0).trans h.c0, (hc 1).trans h.c1, (hc 2).trans h.c2, (hc 3).trans h.c3, (hc 4).trans h.c4, (hc 5).trans h.c5, (hc 6).trans h.c6, (hf 6).trans h.f6, fun i s hs => (h.rooms i s hs).block (hk _ h.lt.2.1), fun o => (hrf o).trans (h.rf o), h.lv, fun i b hi => (hlr i).trans (h.ptr i b hi), h.bl, h.ul, fun i l b u h1 h2 h3 => (h.line i l b u h1 h2 h3).other (M := []) (KTouch.of hb) (by simp) (by simp), h.ge, h.lt, Nat.le_trans h.le hb.size, h.apart, h.two, h.ft.block (fun b hm => hk b (h.lt.2.2.2 b hm))⟩
/-- The time is written. -/
theorem RK.tick {w : World} {base : Nat} {p : PD} {vc vs vw : Value} {k : KD} {a : KW} (h : RK w base p vc vs vw k a) (t : Int) : RK (w.setCell ⟨a.kb, 6, none⟩ (.int .i64 t)) base p vc vs vw ⟨k.rooms, k.lines, t⟩ a := by
  have hne : ∀ b, b ≠ a.kb → (w.setCell ⟨a.kb, 6, none⟩ (.int .i64 t)).heap[b]? = w.heap[b]? := fun b hb => Below.heap_setCell _ _ _ _ hb
  refine ⟨by simpa [go_sem] using h.c0, by simpa [go_sem] using h.c1, by simpa [go_sem] using h.c2, by simpa [go_sem] using h.c3, by simpa [go_sem] using h.c4, by simpa [go_sem] using h.c5, by simp [go_sem, h.c6], by simpa using h.f6, fun i s hs => (h.rooms i s hs).block (hne _ (Ne.symm h.apart.1)), fun o => by simpa using h.rf o, h.lv, fun i b hi => ?_, h.bl, h.ul, fun i l b u h1 h2 h3 => ?_, h.ge, h.lt, by simpa using h.le, h.apart, h.two, h.ft.block (fun b hm => hne b (h.apart.2.2.2 b hm).1)⟩
  · rcases h.apart.2.1 with h1 | h1
    · exact (World.cell?_of_block (w := w) (a := ⟨a.lr, i, none⟩) (hne _ h1)).trans (h.ptr i b hi)
    · have h2 := h.bl
      rw [h1, List.length_nil] at h2
      have := (List.getElem?_eq_some_iff.1 hi).1
      omega
  · have hm := h.apart.2.2.2 b (List.mem_of_getElem? h2)
    exact (h.line i l b u h1 h2 h3).other (KTouch.set (M := [a.kb]) w (by simp) 6 _) (by simpa using hm.1) (by simpa using h.lt.1)
theorem Rl.touch {w w' : World} {b1 b' : Nat} {kd dp ls : Int} {xs : List Int} {u : Value} (h : Rl w b1 b' kd dp xs ls u) {M : List Nat} (ht : KTouch M w w') (hb : b' ∉ M) (hu : ∀ g, u.ownBlock = some g → g ∉ M) : Rl w' b1 b' kd dp xs ls u := by
  have hlt := h.c.lt
  refine ⟨h.c.block (ht.block b' hlt hb), h.rd.block (fun k hk hown => ht.block k hk (hu k hown)) ht.size, fun k hk => ?_, h.lt, Nat.le_trans h.le ht.size⟩
  have := h.own k hk
  have := ht.size
  omega
/-- Where the lines' numbers lie. -/
theorem RK.rows {w : World} {base : Nat} {p : PD} {vc vs vw : Value} {k : KD} {a : KW} (h : RK w base p vc vs vw k a) : ∀ u ∈ a.us, ∀ g, u.ownBlock = some g → a.b1 ≤ g ∧ g < w.heap.size := fun u hu g hg => by
  obtain ⟨i, hi⟩ := List.mem_iff_getElem?.1 hu
  have hlt := (List.getElem?_eq_some_iff.1 hi).1
  have hl : k.lines[i]? = some (k.lines[i]'(by rw [← h.ul]; exact hlt)) := List.getElem?_eq_getElem _
  have hb : a.bs[i]? = some (a.bs[i]'(by rw [h.bl, ← h.ul]; exact hlt)) := List.getElem?_eq_getElem _
  exact (h.line i _ _ u hl hb hi).own g hg
/-- What is touched is none of the kernel's. -/
theorem RK.touch {w w' : World} {base : Nat} {p : PD} {vc vs vw : Value} {k : KD} {a : KW} (h : RK w base p vc vs vw k a) {M : List Nat} (ht : KTouch M w w') (hM : ∀ m ∈ M, a.b1 ≤ m ∧ ∀ u ∈ a.us, u.ownBlock ≠ some m) : RK w' base p vc vs vw k a := by
  have hk : ∀ b, b < a.b1 → w'.heap[b]? = w.heap[b]? := fun b hlt => ht.block b (Nat.lt_of_lt_of_le hlt h.le) (fun hm => by have := (hM b hm).1; omega)
  have hc := fun o => World.cell?_of_block (w := w) (w' := w') (a := ⟨a.kb, o, none⟩) (hk _ h.lt.1)
  have hf := fun o => World.frozen?_of_block (w := w) (w' := w') (a := ⟨a.kb, o, none⟩) (hk _ h.lt.1)
  have hrf := fun o => World.frozen?_of_block (w := w) (w' := w') (a := ⟨a.rb, o, none⟩) (hk _ h.lt.2.1)
  have hlr := fun o => World.cell?_of_block (w := w) (w' := w') (a := ⟨a.lr, o, none⟩) (hk _ h.lt.2.2.1)
  refine ⟨(hc 0).trans h.c0, (hc 1).trans h.c1, (hc 2).trans h.c2, (hc 3).trans h.c3, (hc 4).trans h.c4, (hc 5).trans h.c5, (hc 6).trans h.c6, (hf 6).trans h.f6, fun i s hs => (h.rooms i s hs).block (hk _ h.lt.2.1), fun o => (hrf o).trans (h.rf o), h.lv, fun i b hi => (hlr i).trans (h.ptr i b hi), h.bl, h.ul, fun i l b u h1 h2 h3 => (h.line i l b u h1 h2 h3).touch ht (fun hm => ?_) (fun g hg hm => ?_), h.ge, h.lt, Nat.le_trans h.le ht.size, h.apart, h.two, h.ft.block (fun b hm => hk b (h.lt.2.2.2 b hm))⟩
  · have := (hM b hm).1
    have := h.lt.2.2.2 b (List.mem_of_getElem? h2)
    omega
  · exact (hM g hm).2 u (List.mem_of_getElem? h3) hg
/-- One line is another one. -/
theorem RK.line_set {w w' : World} {base : Nat} {p : PD} {vc vs vw : Value} {k : KD} {a : KW} (h : RK w base p vc vs vw k a) {i b : Nat} {u u' : Value} {l' : LnD} (hb : a.bs[i]? = some b) (hu : a.us[i]? = some u) (ht : RTouch w w' b u u') (hl : Rl w' a.b1 b l'.w.2.2.1 l'.w.2.2.2 l'.xs l'.ls u') : RK w' base p vc vs vw ⟨k.rooms, k.lines.set i l', k.time⟩ { a with us := a.us.set i u' } := by
  have hbm := List.mem_of_getElem? hb
  obtain ⟨n1, n2, n3⟩ := h.apart.2.2.2 b hbm
  have hk : ∀ j, j < a.b1 → j ≠ b → w'.heap[j]? = w.heap[j]? := fun j hj hn => ht.block j (Nat.lt_of_lt_of_le hj h.le) hn
  have hc := fun o => World.cell?_of_block (w := w) (w' := w') (a := ⟨a.kb, o, none⟩) (hk _ h.lt.1 (Ne.symm n1))
  have hf := fun o => World.frozen?_of_block (w := w) (w' := w') (a := ⟨a.kb, o, none⟩) (hk _ h.lt.1 (Ne.symm n1))
  have hrf := fun o => World.frozen?_of_block (w := w) (w' := w') (a := ⟨a.rb, o, none⟩) (hk _ h.lt.2.1 (Ne.symm n2))
  have hlr := fun o => World.cell?_of_block (w := w) (w' := w') (a := ⟨a.lr, o, none⟩) (hk _ h.lt.2.2.1 (Ne.symm n3))
  have hne : k.lines ≠ [] := fun e => by
    have := h.bl
    rw [e, List.length_nil] at this
    have := (List.getElem?_eq_some_iff.1 hb).1
    omega
  refine ⟨(hc 0).trans h.c0, (hc 1).trans h.c1, (hc 2).trans h.c2, (hc 3).trans h.c3, (hc 4).trans h.c4, (hc 5).trans h.c5, (hc 6).trans h.c6, (hf 6).trans h.f6, fun j s hs => (h.rooms j s hs).block (hk _ h.lt.2.1 (Ne.symm n2)), fun o => (hrf o).trans (h.rf o), ?_, fun j b' hj => (hlr j).trans (h.ptr j b' hj), by simp only [List.length_set]; exact h.bl, by simp only [List.length_set]; exact h.ul, fun j l b' u2 h1 h2 h3 => ?_, h.ge, h.lt, Nat.le_trans h.le ht.size, ?_, h.two, fun j b' x hj hx => ?_⟩
  · rcases h.lv with ⟨e, _⟩ | ⟨cap, h1, h2⟩
    · exact absurd e hne
    · exact Or.inr ⟨cap, by simp only [List.length_set]; exact h1, by simp only [List.length_set]; exact h2⟩
  · simp only at h1 h2 h3
    by_cases hij : i = j
    · subst hij
      rw [List.getElem?_set_self (by rw [← h.bl]; exact (List.getElem?_eq_some_iff.1 hb).1)] at h1
      rw [List.getElem?_set_self (by exact (List.getElem?_eq_some_iff.1 hu).1)] at h3
      rw [hb] at h2
      obtain rfl := Option.some.inj h1
      obtain rfl := Option.some.inj h2
      obtain rfl := Option.some.inj h3
      exact hl
    · rw [List.getElem?_set_ne hij] at h1 h3
      have hbb : b' ≠ b := by
        rcases Nat.lt_or_ge i j with hlt | hge
        · exact Ne.symm (h.two i j b b' hlt hb h2)
        · exact h.two j i b' b (by omega) h2 hb
      exact (h.line j l b' u2 h1 h2 h3).other (KTouch.line (M := [b]) ht (by simp)) (by simpa using hbb) (by simpa using h.lt.2.2.2 b hbm)
  · refine ⟨h.apart.1, ?_, ?_, h.apart.2.2.2⟩
    · rcases h.apart.2.1 with e | e
      · exact Or.inl e
      · exact absurd e hne
    · rcases h.apart.2.2.1 with e | e
      · exact Or.inl e
      · exact absurd e hne
  · obtain ⟨q0, q1⟩ := h.ft j b' x hj hx
    by_cases hbb : b' = b
    · subst hbb
      have hlt : b' < w.heap.size := Nat.lt_of_lt_of_le (h.lt.2.2.2 b' hbm) h.le
      exact ⟨(ht.head hlt 0 (by omega)).trans q0, (ht.head hlt 1 (by omega)).trans q1⟩
    · have hcc := fun o => World.cell?_of_block (w := w) (w' := w') (a := ⟨b', o, none⟩) (hk _ (h.lt.2.2.2 b' (List.mem_of_getElem? hj)) hbb)
      exact ⟨(hcc 0).trans q0, (hcc 1).trans q1⟩
/-- Where a line lies. -/
theorem RK.at {w : World} {base : Nat} {p : PD} {vc vs vw : Value} {k : KD} {a : KW} (h : RK w base p vc vs vw k a) {i : Nat} (hi : i < k.lines.length) : ∃ b u cap l, k.lines[i]? = some l ∧ a.bs[i]? = some b ∧ a.us[i]? = some u ∧ a.lv = .slice (some ⟨a.lr, 0, none⟩) k.lines.length cap ∧ k.lines.length ≤ cap ∧ w.cell? ⟨a.lr, i, none⟩ = some (.pointer (some ⟨b, 0, none⟩)) ∧ b ∈ a.m ∧ Rl w a.b1 b l.w.2.2.1 l.w.2.2.2 l.xs l.ls u := by
  have hb : a.bs[i]? = some (a.bs[i]'(by rw [h.bl]; exact hi)) := List.getElem?_eq_getElem _
  have hu : a.us[i]? = some (a.us[i]'(by rw [h.ul]; exact hi)) := List.getElem?_eq_getElem _
  have hl : k.lines[i]? = some k.lines[i] := List.getElem?_eq_getElem hi
  rcases h.lv with ⟨e, _⟩ | ⟨cap, h1, h2⟩
  · rw [e] at hi
    simp at hi
  · exact ⟨_, _, cap, _, hl, hb, hu, h1, h2, h.ptr i _ hb, by simp [KW.m], h.line i _ _ _ hl hb hu⟩
end Go.Proofs.YtajfgmlockjmhaiGreatDoor
namespace Go.Proofs.YtajfgmlockjmhaiGreatDoor
open Go.RowKit

theorem rtake_l (base b : Nat) (l : LnD) (u : Value) (w : World) (hk : l.w.2.2.1 = 1 ∨ l.w.2.2.1 = 2) (hR : Rl w base b l.w.2.2.1 l.w.2.2.2 l.xs l.ls u) :
    Calls Tryz.prog 131 #[.pointer (some ⟨b, 0, none⟩)] w fun e w' => ∃ u', e = .returned (.tuple #[.int .i64 (headL l).1, .bool (headL l).2]) ∧ Rl w' base b (restL l).w.2.2.1 (restL l).w.2.2.2 (restL l).xs (restL l).ls u' ∧ RTouch w w' b u u' := by
  obtain ⟨x, xs, ls⟩ := l
  simp only at hk hR
  cases xs with
  | nil =>
    refine (rtake_none base b _ _ ls u w hR).mono ?_
    rintro e w' ⟨rfl, rfl⟩
    exact ⟨u, rfl, hR, RTouch.refl _ _ _⟩
  | cons n ys =>
    rcases hk with h1 | h2
    · have e2 : restL ⟨x, n :: ys, ls⟩ = ⟨x, n :: ys, ls⟩ := by simp [restL, h1]
      rw [e2]
      rw [h1] at hR
      refine (rtake_sample base b _ n ys ls u w hR).mono ?_
      rintro e w' ⟨rfl, rfl⟩
      exact ⟨u, rfl, by simp only [h1]; exact hR, RTouch.refl _ _ _⟩
    · have e2 : restL ⟨x, n :: ys, ls⟩ = ⟨x, ys, ls⟩ := by simp [restL, h2]
      rw [e2]
      rw [h2] at hR
      refine (rtake_queue base b _ n ys ls u w hR).mono ?_
      rintro e w' ⟨u', rfl, h3, h4⟩
      exact ⟨u', rfl, by simp only [h2]; exact h3, h4⟩
theorem rsend_l (base b : Nat) (l : LnD) (u : Value) (n : Int) (w : World) (hk : l.w.2.2.1 = 1 ∨ l.w.2.2.1 = 2) (hls : 0 ≤ l.ls ∧ l.ls < 1000000000) (hx : l.xs.length ≤ 1000000) (hR : Rl w base b l.w.2.2.1 l.w.2.2.2 l.xs l.ls u) :
    Calls Tryz.prog 133 #[.pointer (some ⟨b, 0, none⟩), .int .i64 n] w fun e w' => ∃ u', e = .returned (.bool (fitL l)) ∧ Rl w' base b (putL l n).w.2.2.1 (putL l n).w.2.2.2 (putL l n).xs (putL l n).ls u' ∧ RTouch w w' b u u' := by
  obtain ⟨x, xs, ls⟩ := l
  simp only at hk hls hx hR
  rcases hk with h1 | h2
  · have e1 : fitL ⟨x, xs, ls⟩ = true := by simp [fitL, h1]
    have e2 : putL ⟨x, xs, ls⟩ n = ⟨x, [n], ls⟩ := by simp [putL, h1]
    rw [e1, e2]
    rw [h1] at hR
    refine (rsend_sample base b _ xs ls u n w hR).mono ?_
    rintro e w' ⟨u', rfl, h3, h4⟩
    exact ⟨u', rfl, by simp only [h1]; exact h3, h4⟩
  · rw [h2] at hR
    by_cases hd : (xs.length : Int) < x.2.2.2
    · have e1 : fitL ⟨x, xs, ls⟩ = true := by simp [fitL, hd]
      have e2 : putL ⟨x, xs, ls⟩ n = ⟨x, xs ++ [n], ls⟩ := by simp [putL, h2, hd]
      rw [e1, e2]
      refine (rsend_room base b _ xs ls u n w hR hd hx).mono ?_
      rintro e w' ⟨u', rfl, h3, h4⟩
      exact ⟨u', rfl, by simp only [h2]; exact h3, h4⟩
    · have e1 : fitL ⟨x, xs, ls⟩ = false := by simp [fitL, h2]; omega
      have e2 : putL ⟨x, xs, ls⟩ n = ⟨x, xs, ls + 1⟩ := by simp [putL, h2, hd]
      rw [e1, e2]
      refine (rsend_full base b _ xs ls u n w hls hR (by omega)).mono ?_
      rintro e w' ⟨rfl, h3, h4⟩
      exact ⟨u, rfl, by simp only [h2]; exact h3, h4⟩
/-- A line of a kernel behind a call on it. -/
theorem RK.line_call {W0 W w' : World} {base : Nat} {p : PD} {vc vs vw : Value} {k : KD} {a : KW} (h0 : RK W0 base p vc vs vw k a) (hb : Below W0.heap.size W0 W) {i b : Nat} {u u' : Value} {l' : LnD} (hbi : a.bs[i]? = some b) (hui : a.us[i]? = some u) (ht : RTouch W w' b u u') (hl : Rl w' a.b1 b l'.w.2.2.1 l'.w.2.2.2 l'.xs l'.ls u') {Pd : Nat → Prop} (hB : ∀ u ∈ a.us, ∀ g, u.ownBlock = some g → Pd g) :
    RK w' base p vc vs vw ⟨k.rooms, k.lines.set i l', k.time⟩ { a with us := a.us.set i u' } ∧ KTouch a.m W0 w' ∧ ∀ v ∈ a.us.set i u', ∀ g, v.ownBlock = some g → Pd g ∨ W0.heap.size ≤ g := by
  have hm : b ∈ a.m := by simp [KW.m, List.mem_of_getElem? hbi]
  refine ⟨(h0.all hb).line_set hbi hui ht hl, (KTouch.of hb).trans (KTouch.line ht hm), fun v hv g hg => ?_⟩
  rcases List.mem_or_eq_of_mem_set hv with h1 | h1
  · exact Or.inl (hB v h1 g hg)
  · subst h1
    rcases ht.new g hg with h2 | h2
    · exact Or.inl (hB u (List.mem_of_getElem? hui) g h2)
    · exact Or.inr (Nat.le_trans hb.size h2)
/-- One room is another one. -/
theorem RK.room_set {w : World} {base : Nat} {p : PD} {vc vs vw : Value} {k : KD} {a : KW} (h : RK w base p vc vs vw k a) {r : Nat} {s : St} (hr : k.rooms[r]? = some s) (s' : St) : RK (setSt w a.rb (r * 8) s') base p vc vs vw ⟨k.rooms.set r s', k.lines, k.time⟩ a := by
  have ht : KTouch [a.rb] w (setSt w a.rb (r * 8) s') := setSt_touch w (by simp) _ _
  have hlen := (List.getElem?_eq_some_iff.1 hr).1
  have hk : ∀ j, j < a.b1 → j ≠ a.rb → (setSt w a.rb (r * 8) s').heap[j]? = w.heap[j]? := fun j hj hn => ht.block j (Nat.lt_of_lt_of_le hj h.le) (by simpa using hn)
  have hc := fun o => World.cell?_of_block (w := w) (w' := setSt w a.rb (r * 8) s') (a := ⟨a.kb, o, none⟩) (hk _ h.lt.1 h.apart.1)
  have hf := fun o => World.frozen?_of_block (w := w) (w' := setSt w a.rb (r * 8) s') (a := ⟨a.kb, o, none⟩) (hk _ h.lt.1 h.apart.1)
  refine ⟨(hc 0).trans h.c0, (hc 1).trans h.c1, (hc 2).trans h.c2, (hc 3).trans h.c3, by simp only [List.length_set]; exact (hc 4).trans h.c4, (hc 5).trans h.c5, (hc 6).trans h.c6, (hf 6).trans h.f6, fun j s2 hs => ?_, fun o => (setSt_frozen _ _ _ _ _).trans (h.rf o), h.lv, fun j b' hj => ?_, h.bl, h.ul, fun j l b' u2 h1 h2 h3 => ?_, h.ge, h.lt, Nat.le_trans h.le ht.size, h.apart, h.two, h.ft.block (fun b hm => hk b (h.lt.2.2.2 b hm) (h.apart.2.2.2 b hm).2.1)⟩
  · simp only at hs
    by_cases hij : r = j
    · subst hij
      rw [List.getElem?_set_self hlen] at hs
      obtain rfl := Option.some.inj hs
      exact setSt_at (h.rooms r s hr)
    · rw [List.getElem?_set_ne hij] at hs
      exact (h.rooms j s2 hs).off (fun i h1 h2 => setSt_off (by omega))
  · rcases h.apart.2.2.1 with h1 | h1
    · exact (World.cell?_of_block (w := w) (a := ⟨a.lr, j, none⟩) (hk _ h.lt.2.2.1 h1)).trans (h.ptr j b' hj)
    · have h2 := h.bl
      rw [h1, List.length_nil] at h2
      have := (List.getElem?_eq_some_iff.1 hj).1
      omega
  · have hm := h.apart.2.2.2 b' (List.mem_of_getElem? h2)
    exact (h.line j l b' u2 h1 h2 h3).other ht (by simpa using hm.2.1) (by simpa using h.lt.2.1)
end Go.Proofs.YtajfgmlockjmhaiGreatDoor
namespace Go.Proofs.YtajfgmlockjmhaiGreatDoor
open Go.RowKit

/-- A room is another one, the others as they were: what is written lies within its eight cells. -/
theorem RK.room_at {w w' : World} {base : Nat} {p : PD} {vc vs vw : Value} {k : KD} {a : KW} (h : RK w base p vc vs vw k a) {r : Nat} {s s' : St} (hr : k.rooms[r]? = some s) (ht : KTouch [a.rb] w w') (hat : StC w' a.rb (r * 8) s') (hoff : ∀ i, i < r * 8 ∨ r * 8 + 8 ≤ i → w'.cell? ⟨a.rb, i, none⟩ = w.cell? ⟨a.rb, i, none⟩) (hfz : ∀ i, w'.frozen? ⟨a.rb, i, none⟩ = w.frozen? ⟨a.rb, i, none⟩) : RK w' base p vc vs vw ⟨k.rooms.set r s', k.lines, k.time⟩ a := by
  have hlen := (List.getElem?_eq_some_iff.1 hr).1
  have hk : ∀ j, j < a.b1 → j ≠ a.rb → w'.heap[j]? = w.heap[j]? := fun j hj hn => ht.block j (Nat.lt_of_lt_of_le hj h.le) (by simpa using hn)
  have hc := fun o => World.cell?_of_block (w := w) (w' := w') (a := ⟨a.kb, o, none⟩) (hk _ h.lt.1 h.apart.1)
  have hf := fun o => World.frozen?_of_block (w := w) (w' := w') (a := ⟨a.kb, o, none⟩) (hk _ h.lt.1 h.apart.1)
  refine ⟨(hc 0).trans h.c0, (hc 1).trans h.c1, (hc 2).trans h.c2, (hc 3).trans h.c3, by simp only [List.length_set]; exact (hc 4).trans h.c4, (hc 5).trans h.c5, (hc 6).trans h.c6, (hf 6).trans h.f6, fun j s2 hs => ?_, fun o => (hfz o).trans (h.rf o), h.lv, fun j b' hj => ?_, h.bl, h.ul, fun j l b' u2 h1 h2 h3 => ?_, h.ge, h.lt, Nat.le_trans h.le ht.size, h.apart, h.two, h.ft.block (fun b hm => hk b (h.lt.2.2.2 b hm) (h.apart.2.2.2 b hm).2.1)⟩
  · simp only at hs
    by_cases hij : r = j
    · subst hij
      rw [List.getElem?_set_self hlen] at hs
      obtain rfl := Option.some.inj hs
      exact hat
    · rw [List.getElem?_set_ne hij] at hs
      exact (h.rooms j s2 hs).off (fun i h1 h2 => hoff i (by omega))
  · rcases h.apart.2.2.1 with h1 | h1
    · exact (World.cell?_of_block (w := w) (a := ⟨a.lr, j, none⟩) (hk _ h.lt.2.2.1 h1)).trans (h.ptr j b' hj)
    · have h2 := h.bl
      rw [h1, List.length_nil] at h2
      have := (List.getElem?_eq_some_iff.1 hj).1
      omega
  · have hm := h.apart.2.2.2 b' (List.mem_of_getElem? h2)
    exact (h.line j l b' u2 h1 h2 h3).other ht (by simpa using hm.2.1) (by simpa using h.lt.2.1)
theorem RK.poke {w : World} {base : Nat} {p : PD} {vc vs vw : Value} {k : KD} {a : KW} (h : RK w base p vc vs vw k a) {r c : Nat} {s : St} (hr : k.rooms[r]? = some s) (hc : c ≤ 5) (n : Int) : RK (w.setCell ⟨a.rb, r * 8 + 1 + c, none⟩ (.int .i64 n)) base p vc vs vw ⟨k.rooms.set r (pokeS s c n), k.lines, k.time⟩ a :=
  h.room_at hr (KTouch.set w (by simp) _ _) ((h.rooms r s hr).poke hc n) (fun i hi => setCell_far (by omega)) (fun i => by simp)
end Go.Proofs.YtajfgmlockjmhaiGreatDoor
namespace Go.Proofs.YtajfgmlockjmhaiGreatDoor
open Go.RowKit

set_option maxRecDepth 100000 in
set_option maxHeartbeats 4000000 in
theorem refpoke_any (p : PD) (vc vs vw : Value) (k : KD) (a : KW) (base : Nat) (r c n : Int) (w : World) (h : RK w base p vc vs vw k a) :
    Calls Tryz.prog 28 #[.pointer (some ⟨a.kb, 0, none⟩), .int .i64 r, .int .i64 c, .int .i64 n] w fun e w' => e = .returned (.int .i64 (pokeN k r c n)) ∧ RK w' base p vc vs vw (pokeK k r c n) a ∧ KTouch a.m w w' := by
  have k4 := h.c4
  have H : Hid (RK w base p vc vs vw k a) := h
  clear h
  go_enter Tryz.func28, Tryz.ntmps28
  go_upto_region 1 with fail
  go_cut [35] from 9 to 34 (fun s35 wx => s35 = .bool (pokeB k r c n) ∧ wx = w)
  case first =>
    by_cases h0 : r < 0
    · have HX : Hid (pokeB k r c n = true) := by show _ = _; unfold pokeB; simp [h0]
      go_wp2_with fail
      go_meet
      case rel => exact ⟨by rw [HX.out], rfl⟩
    have h0' : decide (r < 0) = false := decide_eq_false h0
    by_cases h1 : (k.rooms.length : Int) ≤ r
    · have HX : Hid (pokeB k r c n = true) := by show _ = _; unfold pokeB; simp [h1]
      go_wp2_with fail
      go_meet
      case rel => exact ⟨by rw [HX.out], rfl⟩
    have h1' : decide ((k.rooms.length : Int) ≤ r) = false := decide_eq_false h1
    by_cases h2 : c < 0
    · have HX : Hid (pokeB k r c n = true) := by show _ = _; unfold pokeB; simp [h2]
      go_wp2_with fail
      go_meet
      case rel => exact ⟨by rw [HX.out], rfl⟩
    have h2' : decide (c < 0) = false := decide_eq_false h2
    by_cases h3 : 5 < c
    · have HX : Hid (pokeB k r c n = true) := by show _ = _; unfold pokeB; simp [h3]
      go_wp2_with fail
      go_meet
      case rel => exact ⟨by rw [HX.out], rfl⟩
    have h3' : decide (5 < c) = false := decide_eq_false h3
    by_cases h4 : n < 0
    · have HX : Hid (pokeB k r c n = true) := by show _ = _; unfold pokeB; simp [h4]
      go_wp2_with fail
      go_meet
      case rel => exact ⟨by rw [HX.out], rfl⟩
    have h4' : decide (n < 0) = false := decide_eq_false h4
    have HX : Hid (pokeB k r c n = decide (999 < n)) := by show _ = _; unfold pokeB; simp [h0', h1', h2', h3', h4']
    go_wp2_with fail
    go_meet
    case rel => exact ⟨by rw [HX.out], rfl⟩
  case rest =>
  obtain ⟨rfl, hwc⟩ := hcut
  rw [hwc]
  clear hwc
  cases hb : pokeB k r c n with
  | true =>
    go_wp2
    go_ret
    exact ⟨by unfold pokeN; rw [hb]; rfl, by unfold pokeK; rw [hb, if_pos rfl]; exact H.out, KTouch.refl _ _⟩
  | false =>
    obtain ⟨h0, h1, h2, h3, h4, h5⟩ := pokeB_false hb
    obtain ⟨rn, rfl⟩ : ∃ m : Nat, r = m := ⟨r.toNat, by omega⟩
    obtain ⟨cn, rfl⟩ : ∃ m : Nat, c = m := ⟨c.toNat, by omega⟩
    have hrl : rn < k.rooms.length := by omega
    have hcl : cn ≤ 5 := by omega
    have hc6 : (cn : Int) < 6 := by omega
    have hs : k.rooms[rn]? = some k.rooms[rn] := List.getElem?_eq_getElem hrl
    have hst := H.out.rooms rn _ hs
    have hcell : ∃ v, w.cell? ⟨a.rb, rn * 8 + 1 + cn, none⟩ = some v := by
      obtain ⟨q0, q1, q2, q3, q4, q5, q6, q7⟩ := hst
      match cn, hcl with
      | 0, _ => exact ⟨_, q1⟩
      | 1, _ => exact ⟨_, q2⟩
      | 2, _ => exact ⟨_, q3⟩
      | 3, _ => exact ⟨_, q4⟩
      | 4, _ => exact ⟨_, q5⟩
      | 5, _ => exact ⟨_, q6⟩
    obtain ⟨v0, hv0⟩ := hcell
    have hfz := H.out.rf (rn * 8 + 1 + cn)
    have HK : Hid (pokeK k rn cn n = ⟨k.rooms.set rn (pokeS k.rooms[rn] cn n), k.lines, k.time⟩) := by
      show _ = _
      unfold pokeK
      rw [hb, if_neg (by decide)]
      simp [List.getD, hs]
    clear hst hs
    have HB : Hid (pokeB k rn cn n = false) := hb
    clear hb
    go_wp2
    go_ret
    refine ⟨by unfold pokeN; rw [HB.out]; rfl, ?_, KTouch.set w (by simp [KW.m]) _ _⟩
    rw [HK.out]
    exact H.out.poke (List.getElem?_eq_getElem hrl) hcl n
end Go.Proofs.YtajfgmlockjmhaiGreatDoor
