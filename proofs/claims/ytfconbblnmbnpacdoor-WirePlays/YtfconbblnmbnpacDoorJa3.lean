/-
  WLine, WOut, WTake, WClone, WDel, WTake2, WHeld, WSend, WPlay0: joined into one text.
-/
import Derived.Test.YtfconbblnmbnpacDoorWCheck
import Derived.Test.YtfconbblnmbnpacDoorJa1
import Derived.Deep.RegionLaw
import Derived.Deep.RegionWith
import Derived.Lib.SliceRun
import Derived.Test.YtfconbblnmbnpacDoorWRefW
import Derived.Test.YtfconbblnmbnpacDoorJa2
namespace Go.Proofs.YtfconbblnmbnpacDoor
open Go.RowKit

/-- The cells of a line. -/
def LnC (w : World) (b : Nat) (kd dp ls : Int) (v : Value) : Prop := w.cell? ⟨b, 0, none⟩ = some (.int .i64 kd) ∧ w.cell? ⟨b, 1, none⟩ = some (.int .i64 dp) ∧ w.cell? ⟨b, 2, none⟩ = some v ∧ w.cell? ⟨b, 3, none⟩ = some (.int .i64 ls) ∧ w.frozen? ⟨b, 2, none⟩ = false ∧ w.frozen? ⟨b, 3, none⟩ = false
/-- A line that the call owns: its block lies ahead of 'base', its numbers in a row of their own from 'base' on. -/
structure Ln (w : World) (base b : Nat) (kd dp : Int) (xs : List Int) (ls : Int) (v : Value) : Prop where
  c : LnC w b kd dp ls v
  row : w.ownsRow base 3 1 v xs.length (ints xs)
  lt : b < base
  le : base ≤ w.heap.size
/-- What a call on a line changes: its block, the row of its numbers; and it makes memory. -/
structure Touch (w w' : World) (b : Nat) (v v' : Value) : Prop where
  os : w'.os = w.os
  tape : w'.tape = w.tape
  output : w'.output = w.output
  size : w.heap.size ≤ w'.heap.size
  block : ∀ k, k < w.heap.size → k ≠ b → some k ≠ v.ownBlock → w'.heap[k]? = w.heap[k]?
  new : ∀ k, v'.ownBlock = some k → v.ownBlock = some k ∨ w.heap.size ≤ k
theorem Touch.refl (w : World) (b : Nat) (v : Value) : Touch w w b v v := ⟨rfl, rfl, rfl, Nat.le_refl _, fun _ _ _ _ => rfl, fun _ h => Or.inl h⟩
theorem Touch.below {w w' : World} {b B : Nat} {v v' : Value} (h : Touch w w' b v v') (hb : B ≤ b) (hv : ∀ k, v.ownBlock = some k → B ≤ k) (hB : B ≤ w.heap.size) : Below B w w' :=
  ⟨h.os, h.tape, h.output, h.size, fun k hk => h.block k (by omega) (by omega) (fun e => by have := hv k e.symm; omega)⟩
theorem Touch.alloc {w w' : World} {b : Nat} {v v' : Value} (h : Touch w w' b v v') (o : Obj) : Touch w (w'.alloc o) b v v' :=
  ⟨h.os, h.tape, h.output, by have := h.size; simp; omega, fun k hk hb hv => by rw [Below.heap_alloc _ _ _ (Nat.lt_of_lt_of_le hk h.size)]; exact h.block k hk hb hv, h.new⟩
theorem Touch.drew {w w' : World} {b : Nat} {v v' : Value} (h : Touch w w' b v v') : Touch w w'.drew b v v' := ⟨h.os, h.tape, h.output, h.size, h.block, h.new⟩
theorem Touch.set {w w' : World} {b : Nat} {v v' : Value} (h : Touch w w' b v v') (i : Nat) (u : Value) : Touch w (w'.setCell ⟨b, i, none⟩ u) b v v' :=
  ⟨h.os, h.tape, h.output, by have := h.size; simpa using this, fun k hk hb hv => by rw [Below.heap_setCell _ _ _ _ hb]; exact h.block k hk hb hv, h.new⟩
theorem Touch.cut {w w' : World} {b : Nat} {v v' v2 : Value} (h : Touch w w' b v v') (he : v2.ownBlock = v'.ownBlock) : Touch w w' b v v2 := ⟨h.os, h.tape, h.output, h.size, h.block, by rw [he]; exact h.new⟩
theorem Touch.grown {w w' w2 : World} {b : Nat} {v v' v2 : Value} (h : Touch w w' b v v') (hg : w'.grownBy w2 v'.ownBlock) (hn : ∀ k, v2.ownBlock = some k → v'.ownBlock = some k ∨ w'.heap.size ≤ k) : Touch w w2 b v v2 :=
  ⟨hg.os.trans h.os, hg.tape.trans h.tape, hg.output.trans h.output, Nat.le_trans h.size hg.size, fun k hk hb hv => by
    rw [hg.block k (Nat.lt_of_lt_of_le hk h.size) (fun e => by rcases h.new k e.symm with h1 | h1; exact hv h1.symm; omega)]
    exact h.block k hk hb hv,
   fun k hk => by rcases hn k hk with h1 | h1; exact h.new k h1; right; have := h.size; omega⟩
theorem Touch.dN {w w' : World} {b : Nat} {v v' : Value} (h : Touch w w' b v v') : ∀ n, Touch w (w'.drewN n) b v v'
  | 0 => h
  | n + 1 => (Touch.dN h n).drew
theorem LnC.block {w w' : World} {b : Nat} {kd dp ls : Int} {v : Value} (h : LnC w b kd dp ls v) (hb : w'.heap[b]? = w.heap[b]?) : LnC w' b kd dp ls v := by
  have hc := fun o => World.cell?_of_block (w := w) (w' := w') (a := ⟨b, o, none⟩) hb
  have hf := fun o => World.frozen?_of_block (w := w) (w' := w') (a := ⟨b, o, none⟩) hb
  unfold LnC
  simp only [hc, hf]
  exact h
theorem LnC.items {w : World} {b : Nat} {kd dp ls : Int} {v : Value} (h : LnC w b kd dp ls v) (u : Value) : LnC (w.setCell ⟨b, 2, none⟩ u) b kd dp ls u := by
  obtain ⟨c0, c1, c2, c3, f2, f3⟩ := h
  refine ⟨?_, ?_, ?_, ?_, ?_, ?_⟩ <;> simp [go_sem, c0, c1, c2, c3, f2, f3]
theorem LnC.lost {w : World} {b : Nat} {kd dp ls : Int} {v : Value} (h : LnC w b kd dp ls v) (n : Int) : LnC (w.setCell ⟨b, 3, none⟩ (.int .i64 n)) b kd dp n v := by
  obtain ⟨c0, c1, c2, c3, f2, f3⟩ := h
  refine ⟨?_, ?_, ?_, ?_, ?_, ?_⟩ <;> simp [go_sem, c0, c1, c2, c3, f2, f3]
theorem LnC.lt {w : World} {b : Nat} {kd dp ls : Int} {v : Value} (h : LnC w b kd dp ls v) : b < w.heap.size := wlt h.1
theorem LnC.below {w w' : World} {b B : Nat} {kd dp ls : Int} {v : Value} (h : LnC w b kd dp ls v) (hb : Below B w w') (hB : b < B) : LnC w' b kd dp ls v := h.block (hb.block b hB)
theorem Ln.below {w w' : World} {base b : Nat} {kd dp ls : Int} {xs : List Int} {v : Value} (h : Ln w base b kd dp xs ls v) (hb : Below w.heap.size w w') : Ln w' base b kd dp xs ls v :=
  ⟨h.c.below hb (Nat.lt_of_lt_of_le h.lt h.le), own_below h.row hb (Nat.le_refl _), h.lt, Nat.le_trans h.le hb.size⟩
theorem Ln.own {w : World} {base b : Nat} {kd dp ls : Int} {xs : List Int} {v : Value} (h : Ln w base b kd dp xs ls v) {B : Nat} (hB : B ≤ base) : ∀ k, v.ownBlock = some k → B ≤ k := fun k hk => Nat.le_trans hB (h.row.lt k hk).1
end Go.Proofs.YtfconbblnmbnpacDoor
namespace Go.Proofs.YtfconbblnmbnpacDoor
open Go.RowKit

def woutB (n : Int) : Bool := decide (n < 0) || decide (999 < n)
set_option maxRecDepth 100000 in
set_option maxHeartbeats 1000000 in
theorem wout_yes (n : Int) (w : World) (h : n < 0 ∨ 1000 ≤ n) : Calls Tryd.prog 27 #[.int .i64 n] w fun e w' => e = .returned (.bool true) ∧ w' = w := by
  by_cases h0 : n < 0
  · clear h
    go_enter Tryd.func27, Tryd.ntmps27
    go_wp2
    go_ret
    exact ⟨rfl, rfl⟩
  · have h0' : decide (n < 0) = false := by simpa using h0
    have h1 : 1000 ≤ n := by omega
    clear h
    go_enter Tryd.func27, Tryd.ntmps27
    go_wp2
    go_ret
    exact ⟨rfl, rfl⟩
set_option maxRecDepth 100000 in
set_option maxHeartbeats 1000000 in
theorem wout_no (n : Int) (w : World) (h0 : 0 ≤ n) (h1 : n < 1000) : Calls Tryd.prog 27 #[.int .i64 n] w fun e w' => e = .returned (.bool false) ∧ w' = w := by
  have h0' : decide (n < 0) = false := by simpa using h0
  have h1' : decide (1000 ≤ n) = false := by simpa using h1
  go_enter Tryd.func27, Tryd.ntmps27
  go_wp2
  go_ret
  exact ⟨rfl, rfl⟩
theorem wout_any (n : Int) (w : World) : Calls Tryd.prog 27 #[.int .i64 n] w fun e w' => e = .returned (.bool (woutB n)) ∧ w' = w := by
  by_cases h : n < 0 ∨ 1000 ≤ n
  · have e : woutB n = true := by unfold woutB; rw [Bool.or_eq_true]; rcases h with h | h; exact Or.inl (decide_eq_true h); exact Or.inr (decide_eq_true (by omega))
    rw [e]; exact wout_yes n w h
  · have e : woutB n = false := by unfold woutB; rw [Bool.or_eq_false_iff]; exact ⟨decide_eq_false (by omega), decide_eq_false (by omega)⟩
    rw [e]; exact wout_no n w (by omega) (by omega)
end Go.Proofs.YtfconbblnmbnpacDoor
namespace Go.Proofs.YtfconbblnmbnpacDoor
open Go.RowKit

theorem Ln.form {w : World} {base b : Nat} {kd dp ls : Int} {xs : List Int} {v : Value} (h : Ln w base b kd dp xs ls v) : (v = .slice none 0 0 ∧ xs = []) ∨ ∃ g cap, v = .slice (some ⟨g, 0, none⟩) xs.length cap := by
  rcases row_form h.row with ⟨rfl, h0⟩ | ⟨g, cap, rfl⟩
  · exact Or.inl ⟨rfl, List.eq_nil_of_length_eq_zero h0⟩
  · exact Or.inr ⟨_, _, rfl⟩

set_option maxRecDepth 100000 in
set_option maxHeartbeats 2000000 in
theorem peek_none (b : Nat) (kd dp ls : Int) (ao : Option Addr) (cap : Nat) (w : World) (hL : LnC w b kd dp ls (.slice ao 0 cap)) :
    Calls Tryd.prog 13 #[.pointer (some ⟨b, 0, none⟩)] w fun e w' => e = .returned (.tuple #[.int .i64 0, .bool false]) ∧ w' = w := by
  have hlt := hL.lt
  obtain ⟨c0, c1, c2, c3, f2, f3⟩ := hL
  go_enter Tryd.func13, Tryd.ntmps13
  go_wp2
  go_ret2
  exact ⟨rfl, rfl⟩
set_option maxRecDepth 100000 in
set_option maxHeartbeats 2000000 in
theorem peek_some (b : Nat) (kd dp ls : Int) (g m cap : Nat) (x : Int) (w : World) (hL : LnC w b kd dp ls (.slice (some ⟨g, 0, none⟩) m cap)) (hm : 0 < m) (hx : w.cell? ⟨g, 0, none⟩ = some (.int .i64 x)) :
    Calls Tryd.prog 13 #[.pointer (some ⟨b, 0, none⟩)] w fun e w' => e = .returned (.tuple #[.int .i64 x, .bool true]) ∧ w' = w := by
  have hlt := hL.lt
  have hlt2 := wlt hx
  have hm' : ¬ m = 0 := by omega
  obtain ⟨c0, c1, c2, c3, f2, f3⟩ := hL
  go_enter Tryd.func13, Tryd.ntmps13
  go_wp2
  go_ret2
  exact ⟨rfl, rfl⟩
end Go.Proofs.YtfconbblnmbnpacDoor
namespace Go.Proofs.YtfconbblnmbnpacDoor
open Go.RowKit

set_option maxRecDepth 100000 in
set_option maxHeartbeats 4000000 in
theorem clone_nil (w : World) : Calls Tryd.prog 28 #[.slice none 0 0] w fun e w' => e = .returned (.slice none 0 0) ∧ w' = w := by
  have q : ∀ (w : World) (a : Option Addr) (n c n' c' : Nat), (binOp .eql 24 (.slice a n c) (.slice none n' c')).run Tryd.prog w = .ok (.bool a.isNone) w := fun w a n c n' c' => Lib.run_eql_slice_nil w _ _ a n c n' c' Tryd.underlying24
  go_enter Tryd.func28, Tryd.ntmps28
  go_wp2
  go_ret
  exact ⟨rfl, rfl⟩
set_option maxRecDepth 100000 in
set_option maxHeartbeats 4000000 in
theorem clone_some (g cap : Nat) (xs : List Int) (w : World) (hx : xs.length ≤ 1000000) (hc : ∀ i x, (ints xs)[i]? = some x → w.cell? ⟨g, i, none⟩ = some x) :
    Calls Tryd.prog 28 #[.slice (some ⟨g, 0, none⟩) xs.length cap] w fun e w' => ∃ v', e = .returned v' ∧ w'.ownsRow w.heap.size 3 1 v' xs.length (ints xs) ∧ Below w.heap.size w w' := by
  obtain ⟨ii, hi, hz0, hz1, hz2⟩ := info_parts infoInt
  have q : ∀ (w : World) (a : Option Addr) (n c n' c' : Nat), (binOp .eql 24 (.slice a n c) (.slice none n' c')).run Tryd.prog w = .ok (.bool a.isNone) w := fun w a n c n' c' => Lib.run_eql_slice_nil w _ _ a n c n' c' Tryd.underlying24
  have HC : Hid (∀ i x, (ints xs)[i]? = some x → w.cell? ⟨g, i, none⟩ = some x) := hc
  clear hc
  go_enter Tryd.func28, Tryd.ntmps28
  go_wp2_with (at_builtin; refine wpList_append_at _ rfl _ _ 24 rfl w.heap.size 3 ii (.int .i64 0) 1 8 Tryd.underlying24 hi hz0 hz1 hz2 rfl (by decide) _ _ _ rfl (World.ownsRow_made w #[] 0 (Nat.le_refl _) (Nat.zero_le _) rfl) ⟨g, 0, none⟩ xs.length cap (ints xs) rfl ?c0A ?c1A ?c2A ?c3A ?c4A ?c5A ?_)
  case c0A => rw [ints_len, Nat.mul_one]
  case c1A =>
    intro j u hj
    have h := HC.out j u hj
    rw [Addr.add_lit, Nat.zero_add]
    exact (((Below.refl _ w).alloc (Nat.le_refl _) _).cell (p := ⟨g, j, none⟩) (wlt h)).trans h
  case c2A => intro u hu; obtain ⟨x, _, rfl⟩ := List.mem_map.1 hu; rfl
  case c3A => unfold maxLen; omega
  case c4A => omega
  case c5A => simp
  intro v1 w2 own1 hg1 hat1
  clear q
  go_wp2
  go_ret
  refine ⟨v1, rfl, by simpa using own1, ((Below.refl _ w).alloc (Nat.le_refl _) _).grown hg1 (by simp) (by intro k hk; simp [Value.ownBlock] at hk; omega)⟩
end Go.Proofs.YtfconbblnmbnpacDoor
namespace Go.Proofs.YtfconbblnmbnpacDoor
open Go.RowKit

set_option maxRecDepth 1000000 in
set_option maxHeartbeats 4000000 in
theorem del_walk (g cap : Nat) (x : Int) (ys : List Int) (w : World) (hcap : ys.length + 1 ≤ cap) (hm : cap ≤ 9223372036854775807) (hc : ∀ i x', (ints (x :: ys))[i]? = some x' → w.cell? ⟨g, i, none⟩ = some x') (hs : ∀ i, i < cap → (w.cell? ⟨g, i, none⟩).isSome = true) (hf : ∀ i, w.frozen? ⟨g, i, none⟩ = false) :
    Calls Tryd.prog 26 #[.slice (some ⟨g, 0, none⟩) (ys.length + 1) cap, .int .i64 0, .int .i64 1] w fun e w' => e = .returned (.slice (some ⟨g, 0, none⟩) ys.length cap) ∧ w' = (w.drew.setCells g 0 (ints ys)).setCells g ys.length [.int .i64 0] := by
  obtain ⟨ii, hi, hz0, hz1, hz2⟩ := info_parts infoInt
  obtain ⟨A, hA, hsrc⟩ : ∃ A : Addr, (if cap = 1 then some (⟨g, 0, none⟩ : Addr) else some ⟨g, 1, none⟩) = some A ∧ Hid (∀ t u, (ints ys)[t]? = some u → w.drew.cell? (A.add t) = some u) := by
    by_cases h : cap = 1
    · refine ⟨⟨g, 0, none⟩, by simp [h], fun t u hu => ?_⟩
      have h0 : ys = [] := List.eq_nil_of_length_eq_zero (by omega)
      subst h0
      simp [ints] at hu
    · refine ⟨⟨g, 1, none⟩, by simp [h], fun t u hu => ?_⟩
      rw [Addr.add_lit, Nat.add_comm]
      exact hc (t + 1) u (by simpa [ints] using hu)
  have s1 : Hid ((ints ys).length = ys.length * 1) := by show _ = _; rw [ints_len, Nat.mul_one]
  have s2 : Hid (∀ u ∈ ints ys, u.oneCell' = true) := by
    intro u hu
    obtain ⟨x, _, rfl⟩ := List.mem_map.1 hu
    rfl
  have s3 : Hid (∀ t, t < (ints ys).length → (w.drew.cell? ⟨g, 0 + 0 * 1 + t, none⟩).isSome = true ∧ w.drew.frozen? ⟨g, 0 + 0 * 1 + t, none⟩ = false) := by
    intro t ht
    rw [ints_len] at ht
    exact ⟨by rw [show 0 + 0 * 1 + t = t by omega]; exact hs t (by omega), hf _⟩
  obtain ⟨W1, hW1⟩ : ∃ W1, W1 = w.drew.setCells g (0 + 0 * 1) (ints ys) := ⟨_, rfl⟩
  have hcl : ∀ ty, (Builtin.clear_ #[24] ty #[.slice (some ⟨g, ys.length, none⟩) 1 (cap - ys.length)]).run Tryd.prog W1 = .ok (.tuple #[]) (W1.setCells g ys.length [.int .i64 0]) := by
    intro ty
    have hce : W1.cell? ⟨g, ys.length, none⟩ = w.cell? ⟨g, ys.length, none⟩ := by
      rw [hW1, World.cell?_setCells_out g _ _ _ _ (fun _ _ => by right; show 0 + 0 * 1 + (ints ys).length ≤ ys.length; rw [ints_len]; omega)]
      rfl
    have hfe : W1.frozen? ⟨g, ys.length, none⟩ = w.frozen? ⟨g, ys.length, none⟩ := by
      rw [hW1, World.frozen?_setCells]
      rfl
    exact Lib.run_clear_slice W1 24 3 ty (.int .i64 0) Tryd.underlying24 Tryd.zeroValue3 rfl rfl g ys.length 1 (cap - ys.length) (by omega)
      (fun j hj => by obtain rfl : j = 0 := by omega
                      rw [Nat.add_zero, hce]; exact hs _ (by omega))
      (fun j hj => by obtain rfl : j = 0 := by omega
                      rw [Nat.add_zero, hfe]; exact hf _)
  have hW : Hid (W1 = w.drew.setCells g (0 + 0 * 1) (ints ys)) := hW1
  clear hW1
  have h1c : 1 ≤ cap := by omega
  have h1i : (1 : Int) ≤ (ys.length : Int) + 1 := by omega
  clear hc hs hf
  go_enter Tryd.func26, Tryd.ntmps26
  go_wp2_with fail
  go_region_law (refine step_append_room rfl (.tmp 22) (.tmp 25) 24 rfl 3 ii 1 Tryd.underlying24 hi hz1 g 0 0 cap (by simp [Act.eval, Act.put]) A ys.length (cap - 1) (ints ys) (by simp [Act.eval, Act.put]) s1.out hsrc.out s2.out (by omega) s3.out ?_; rw [← hW.out])
  all_goals go_wp2
  all_goals go_ret
  all_goals exact ⟨rfl, by rw [hW.out]⟩

theorem cells_heap {g : Nat} {e : TypeId} : ∀ (vs : List Value) (o : Nat) (w : World) (cur : Array Value), w.heap[g]? = some (.cells cur e (0, 0)) → ∃ cur', (w.setCells g o vs).heap[g]? = some (.cells cur' e (0, 0)) ∧ cur'.size = cur.size
  | [], _, _, cur, h => ⟨cur, h, rfl⟩
  | v :: r, o, w, cur, h => by
    obtain ⟨c, h1, h2⟩ := cells_heap r (o + 1) (w.setCell ⟨g, o, none⟩ v) _ (heap_setCell_same w g o cur e v h)
    exact ⟨c, h1, by simpa using h2⟩
theorem cells_other {g k : Nat} (hk : k ≠ g) : ∀ (vs : List Value) (o : Nat) (w : World), (w.setCells g o vs).heap[k]? = w.heap[k]?
  | [], _, _ => rfl
  | v :: r, o, w => by rw [World.setCells, cells_other hk r, heap_setCell_other _ _ _ _ hk]
theorem cells_rest (g : Nat) : ∀ (vs : List Value) (o : Nat) (w : World), (w.setCells g o vs).os = w.os ∧ (w.setCells g o vs).tape = w.tape ∧ (w.setCells g o vs).output = w.output ∧ (w.setCells g o vs).heap.size = w.heap.size
  | [], _, _ => ⟨rfl, rfl, rfl, rfl⟩
  | v :: r, o, w => by
    obtain ⟨h1, h2, h3, h4⟩ := cells_rest g r (o + 1) (w.setCell ⟨g, o, none⟩ v)
    exact ⟨h1, h2, h3, h4.trans (by simp [World.setCell])⟩
/-- Behind it the row is what it was without its first. -/
theorem del_row {base g cap : Nat} {x : Int} {ys : List Int} {w : World} (h : w.ownsRow base 3 1 (.slice (some ⟨g, 0, none⟩) (ys.length + 1) cap) (ys.length + 1) (ints (x :: ys))) :
    ((w.drew.setCells g 0 (ints ys)).setCells g ys.length [.int .i64 0]).ownsRow base 3 1 (.slice (some ⟨g, 0, none⟩) ys.length cap) ys.length (ints ys) ∧ w.grownBy ((w.drew.setCells g 0 (ints ys)).setCells g ys.length [.int .i64 0]) (some g) := by
  have hcap := own_cap h
  rcases h.2 with ⟨h2, _⟩ | ⟨g', cap', cur, e0, h3, h4, h5, h6, h7, h8⟩
  · cases h2
  · injection e0 with e1 _ e3
    injection e1 with e1
    injection e1 with e1
    subst e1
    subst e3
    obtain ⟨c1, i1, i2⟩ := cells_heap (g := g) (ints ys) 0 w.drew cur h4
    obtain ⟨c2, j1, j2⟩ := cells_heap (g := g) [.int .i64 0] ys.length _ c1 i1
    obtain ⟨a1, a2, a3, a4⟩ := cells_rest g (ints ys) 0 w.drew
    obtain ⟨b1, b2, b3, b4⟩ := cells_rest g [.int .i64 0] ys.length (w.drew.setCells g 0 (ints ys))
    refine ⟨⟨by rw [ints_len, Nat.mul_one], Or.inr ⟨g, cap, c2, rfl, h3, j1, by omega, h6, by omega, ?_⟩⟩, ⟨b1.trans a1, b2.trans a2, b3.trans a3, by rw [b4, a4]; exact Nat.le_refl _, fun k _ hk => ?_⟩⟩
    · apply List.ext_getElem?
      intro i
      rw [List.getElem?_take, Nat.mul_one]
      by_cases hi : i < ys.length
      · rw [if_pos hi, Array.getElem?_toList]
        have hin := World.cell?_setCells_in g (ints ys) 0 w.drew (fun j hj => hcap.2.2.2.2.2.1 _ (by rw [ints_len] at hj; omega)) i (by rw [ints_len]; exact hi)
        rw [Nat.zero_add] at hin
        have hout := World.cell?_setCells_out g [.int .i64 0] ys.length (w.drew.setCells g 0 (ints ys)) ⟨g, i, none⟩ (fun _ _ => Or.inl hi)
        rw [hin, cell_of_row _ g i c2 _ _ j1] at hout
        rw [hout, List.getElem?_eq_getElem (by rw [ints_len]; exact hi)]
      · rw [if_neg hi, List.getElem?_eq_none (by rw [ints_len]; omega)]
    · have hkg : k ≠ g := fun e => hk (by rw [e])
      rw [cells_other hkg, cells_other hkg]
      rfl
theorem del_first (base g cap : Nat) (x : Int) (ys : List Int) (w : World) (h : w.ownsRow base 3 1 (.slice (some ⟨g, 0, none⟩) (ys.length + 1) cap) (ys.length + 1) (ints (x :: ys))) :
    Calls Tryd.prog 26 #[.slice (some ⟨g, 0, none⟩) (ys.length + 1) cap, .int .i64 0, .int .i64 1] w fun e w' => e = .returned (.slice (some ⟨g, 0, none⟩) ys.length cap) ∧
      w'.ownsRow base 3 1 (.slice (some ⟨g, 0, none⟩) ys.length cap) ys.length (ints ys) ∧ w.grownBy w' (some g) := by
  obtain ⟨_, _, h3, h4, h5, h6, h7⟩ := own_cap h
  refine (del_walk g cap x ys w h3 (by simpa [maxLen] using h4) h5 h6 h7).mono fun e w' ⟨he, hw⟩ => ?_
  subst hw
  exact ⟨he, del_row h⟩
end Go.Proofs.YtfconbblnmbnpacDoor
namespace Go.Proofs.YtfconbblnmbnpacDoor
open Go.RowKit

set_option maxRecDepth 100000 in
set_option maxHeartbeats 2000000 in
theorem take_none (b : Nat) (kd dp ls : Int) (ao : Option Addr) (cap : Nat) (w : World) (hL : LnC w b kd dp ls (.slice ao 0 cap)) :
    Calls Tryd.prog 10 #[.pointer (some ⟨b, 0, none⟩)] w fun e w' => e = .returned (.tuple #[.int .i64 0, .iface 61 (.int .i64 5)]) ∧ w' = w := by
  have hp := peek_none b kd dp ls ao cap w hL
  clear hL
  go_enter Tryd.func10, Tryd.ntmps10
  go_wp2_with (go_at_call 13; refine hp.mono ?_; rintro e w1 ⟨rfl, rfl⟩; clear hp)
  go_ret2
  exact ⟨rfl, rfl⟩
set_option maxRecDepth 100000 in
set_option maxHeartbeats 2000000 in
theorem take_sample (b : Nat) (dp ls : Int) (g m cap : Nat) (x : Int) (w : World) (hL : LnC w b 1 dp ls (.slice (some ⟨g, 0, none⟩) m cap)) (hm : 0 < m) (hx : w.cell? ⟨g, 0, none⟩ = some (.int .i64 x)) :
    Calls Tryd.prog 10 #[.pointer (some ⟨b, 0, none⟩)] w fun e w' => e = .returned (.tuple #[.int .i64 x, .nilIface]) ∧ w' = w := by
  have hp := peek_some b 1 dp ls g m cap x w hL hm hx
  have hlt := hL.lt
  obtain ⟨c0, c1, c2, c3, f2, f3⟩ := hL
  clear c1 c2 c3 f2 f3 hx
  go_enter Tryd.func10, Tryd.ntmps10
  go_wp2_with (go_at_call 13; refine hp.mono ?_; rintro e w1 ⟨rfl, rfl⟩; clear hp)
  go_ret2
  exact ⟨rfl, rfl⟩
set_option maxRecDepth 100000 in
set_option maxHeartbeats 4000000 in
theorem take_queue (base b : Nat) (dp ls : Int) (x : Int) (ys : List Int) (v : Value) (w : World) (hL : Ln w base b 2 dp (x :: ys) ls v) :
    Calls Tryd.prog 10 #[.pointer (some ⟨b, 0, none⟩)] w fun e w' => ∃ v', e = .returned (.tuple #[.int .i64 x, .nilIface]) ∧ Ln w' base b 2 dp ys ls v' ∧ Touch w w' b v v' := by
  obtain ⟨g, cap, rfl⟩ : ∃ g cap, v = .slice (some ⟨g, 0, none⟩) (ys.length + 1) cap := by
    rcases row_form hL.row with ⟨_, h⟩ | h
    · simp at h
    · exact h
  have hrow := hL.row
  have hcp := own_cap hrow
  have hx : w.cell? ⟨g, 0, none⟩ = some (.int .i64 x) := hcp.2.2.2.2.1 0 _ rfl
  have hp := peek_some b 2 dp ls g (ys.length + 1) cap x w hL.c (by omega) hx
  have hd := del_first base g cap x ys w hrow
  have HL : Hid (Ln w base b 2 dp (x :: ys) ls (.slice (some ⟨g, 0, none⟩) (ys.length + 1) cap)) := hL
  have hlt := hL.c.lt
  have hbg : b ≠ g := by have := hL.lt; have := hcp.1; omega
  obtain ⟨c0, c1, c2, c3, f2, f3⟩ := hL.c
  clear c1 c3 f3 hx hL hrow hcp
  go_enter Tryd.func10, Tryd.ntmps10
  go_wp2_with (first | (go_at_call 13; refine hp.mono ?_; rintro e w1 ⟨rfl, rfl⟩; clear hp) | (go_at_call 26; refine hd.mono ?_; rintro e w2 ⟨rfl, own2, hg2⟩; clear hd; have hb2 := hg2.block b hlt (fun e => hbg (Option.some.inj e)); have hc2 := HL.out.c.block hb2; have HC : Hid (LnC w2 b 2 dp ls (.slice (some ⟨g, 0, none⟩) (ys.length + 1) cap)) := hc2; obtain ⟨k0, k1, k2, k3, k4, k5⟩ := hc2; clear k0 k1 k3 k5; have hlt2 := HC.out.lt))
  go_ret2
  refine ⟨_, rfl, ⟨HC.out.items _, ownsRow_setCell_below own2 (a := ⟨b, 2, none⟩) HL.out.lt _, HL.out.lt, by have := HL.out.le; have := hg2.size; simp; omega⟩, ?_⟩
  exact ((Touch.refl w1 b (.slice (some ⟨g, 0, none⟩) (ys.length + 1) cap)).grown (v2 := .slice (some ⟨g, 0, none⟩) ys.length cap) hg2 (fun k hk => Or.inl hk)).set 2 _
end Go.Proofs.YtfconbblnmbnpacDoor
namespace Go.Proofs.YtfconbblnmbnpacDoor
open Go.RowKit

theorem own_mono {w : World} {base B : Nat} {e : TypeId} {size : Nat} {v : Value} {n : Nat} {xs : List Value} (h : w.ownsRow base e size v n xs) (hB : B ≤ base) : w.ownsRow B e size v n xs := by
  refine ⟨h.1, ?_⟩
  rcases h.2 with h2 | ⟨g, cap, cur, rfl, h3, r⟩
  · exact Or.inl h2
  · exact Or.inr ⟨g, cap, cur, rfl, Nat.le_trans hB h3, r⟩
set_option maxRecDepth 100000 in
set_option maxHeartbeats 4000000 in
theorem held_any (base b : Nat) (kd dp : Int) (xs : List Int) (ls : Int) (v : Value) (w : World) (hx : xs.length ≤ 1000000) (hL : Ln w base b kd dp xs ls v) :
    Calls Tryd.prog 15 #[.pointer (some ⟨b, 0, none⟩)] w fun e w' => ∃ ao cap, e = .returned (.agg #[.slice ao xs.length cap, .int .i64 ls]) ∧ w'.ownsRow w.heap.size 3 1 (.slice ao xs.length cap) xs.length (ints xs) ∧ Below w.heap.size w w' := by
  have hlt := hL.c.lt
  have hA : Below w.heap.size w (w.alloc (.cells #[.slice none 0 0, .int .i64 0] 35)) := (Below.refl _ _).alloc (Nat.le_refl _) _
  have hcl : Calls Tryd.prog 28 #[v] (w.alloc (.cells #[.slice none 0 0, .int .i64 0] 35)).drew fun e w' => ∃ ao cap, e = .returned (.slice ao xs.length cap) ∧ w'.ownsRow (w.heap.size + 1) 3 1 (.slice ao xs.length cap) xs.length (ints xs) ∧ Below (w.heap.size + 1) (w.alloc (.cells #[.slice none 0 0, .int .i64 0] 35)) w' := by
    rcases hL.form with ⟨rfl, rfl⟩ | ⟨g, cap, rfl⟩
    · refine (clone_nil _).mono fun e w' ⟨he, hw⟩ => ?_
      subst hw
      exact ⟨_, _, he, World.ownsRow_nil _ _ _ _, (Below.refl _ _).drew⟩
    · have hcp := own_cap hL.row
      refine (clone_some g cap xs _ hx (fun i x h => ((hA.drew).cell (p := ⟨g, i, none⟩) hcp.2.1).trans (hcp.2.2.2.2.1 i x h))).mono fun e w' ⟨v', he, hr, hb⟩ => ?_
      have hr' : w'.ownsRow (w.heap.size + 1) 3 1 v' xs.length (ints xs) := by simpa using hr
      rcases row_form hr' with ⟨rfl, h0⟩ | ⟨g', cap', rfl⟩
      · exact ⟨none, 0, by rw [h0]; exact he, by rw [h0] at hr' ⊢; exact hr', (Below.refl _ _).drew.trans (by simpa using hb)⟩
      · exact ⟨_, _, he, hr', (Below.refl _ _).drew.trans (by simpa using hb)⟩
  obtain ⟨sa, sm, sc, rfl⟩ : ∃ sa sm sc, v = .slice sa sm sc := by
    rcases row_form hL.row with ⟨rfl, _⟩ | ⟨g, cap, rfl⟩
    · exact ⟨_, _, _, rfl⟩
    · exact ⟨_, _, _, rfl⟩
  obtain ⟨c0, c1, c2, c3, f2, f3⟩ := hL.c
  clear c0 c1 f2 f3 hL
  go_enter Tryd.func15, Tryd.ntmps15
  go_wp2
  go_region_with (go_at_call 28; refine hcl.mono ?_; rintro e w1 ⟨ao, cap, rfl, own1, b1⟩; have d3 : w1.cell? ⟨b, 3, none⟩ = some (.int .i64 ls) := (b1.cell (p := ⟨b, 3, none⟩) (show b < _ by omega)).trans ((hA.cell (p := ⟨b, 3, none⟩) hlt).trans c3); have e0 : w1.cell? ⟨w.heap.size, 0, none⟩ = some (.slice none 0 0) := (b1.cell (p := ⟨w.heap.size, 0, none⟩) (by simp)).trans (by simp); have e1 : w1.cell? ⟨w.heap.size, 1, none⟩ = some (.int .i64 0) := (b1.cell (p := ⟨w.heap.size, 1, none⟩) (by simp)).trans (by simp); have g0 : w1.frozen? ⟨w.heap.size, 0, none⟩ = false := (b1.frozen (p := ⟨w.heap.size, 0, none⟩) (by simp)).trans (by simp); have g1 : w1.frozen? ⟨w.heap.size, 1, none⟩ = false := (b1.frozen (p := ⟨w.heap.size, 1, none⟩) (by simp)).trans (by simp))
  all_goals (try go_wp2)
  all_goals
    refine bodyPost_ret (v := .agg #[.slice ao xs.length cap, .int .i64 ls]) (by simp [results, Tryd.results15, go_sem, e0, e1]) rfl ⟨_, _, rfl, own_mono (ownsRow_setCell_below (ownsRow_setCell_below own1 (a := ⟨w.heap.size, 0, none⟩) (Nat.lt_succ_self _) _) (a := ⟨w.heap.size, 1, none⟩) (Nat.lt_succ_self _) _) (Nat.le_succ _), ?_⟩
    exact ((hA.trans (b1.mono (Nat.le_succ _))).setCell (p := ⟨w.heap.size, 0, none⟩) (Nat.le_refl _) _).setCell (p := ⟨w.heap.size, 1, none⟩) (Nat.le_refl _) _
end Go.Proofs.YtfconbblnmbnpacDoor
namespace Go.Proofs.YtfconbblnmbnpacDoor
open Go.RowKit

set_option maxRecDepth 100000 in
set_option maxHeartbeats 2000000 in
theorem wnew_no (f t k d : Int) (w : World) (h : wchk f t k d ≠ 0) : Calls Tryd.prog 8 #[wV f t k d] w fun e w' => e = .returned (.tuple #[.pointer none, .iface 61 (.int .i64 (wchk f t k d))]) ∧ Below w.heap.size w w' := by
  have hA : Below w.heap.size w (w.alloc (.cells #[.int .i64 f, .int .i64 t, .int .i64 k, .int .i64 d] 23)) := (Below.refl _ _).alloc (Nat.le_refl _) _
  have hc := wcheck_any f t k d (w.alloc (.cells #[.int .i64 f, .int .i64 t, .int .i64 k, .int .i64 d] 23))
  rw [wErr_not h] at hc
  clear h
  generalize wchk f t k d = q at hc ⊢
  unfold wV at hc ⊢
  go_enter Tryd.func8, Tryd.ntmps8
  go_wp2_with (go_at_call 7; refine hc.mono ?_; rintro e w1 ⟨rfl, b1⟩; clear hc)
  go_ret2
  exact ⟨rfl, hA.trans (b1.mono hA.size)⟩
set_option maxRecDepth 100000 in
set_option maxHeartbeats 2000000 in
theorem wnew_ok (f t k d : Int) (w : World) (h : wchk f t k d = 0) : Calls Tryd.prog 8 #[wV f t k d] w fun e w' => ∃ b, e = .returned (.tuple #[.pointer (some ⟨b, 0, none⟩), .nilIface]) ∧ LnC w' b k d 0 (.slice none 0 0) ∧ w.heap.size ≤ b ∧ b < w'.heap.size ∧ Below w.heap.size w w' := by
  have hA : Below w.heap.size w (w.alloc (.cells #[.int .i64 f, .int .i64 t, .int .i64 k, .int .i64 d] 23)) := (Below.refl _ _).alloc (Nat.le_refl _) _
  have hc := wcheck_any f t k d (w.alloc (.cells #[.int .i64 f, .int .i64 t, .int .i64 k, .int .i64 d] 23))
  rw [h] at hc
  have hc' : Calls Tryd.prog 7 #[wV f t k d] (w.alloc (.cells #[.int .i64 f, .int .i64 t, .int .i64 k, .int .i64 d] 23)) fun e w' => e = .returned .nilIface ∧ Below (w.heap.size + 1) (w.alloc (.cells #[.int .i64 f, .int .i64 t, .int .i64 k, .int .i64 d] 23)) w' := hc.mono fun e w' ⟨h1, h2⟩ => ⟨h1, by simpa using h2⟩
  clear h hc
  unfold wV at hc' ⊢
  go_enter Tryd.func8, Tryd.ntmps8
  go_wp2_with (go_at_call 7; refine hc'.mono ?_; rintro e w1 ⟨rfl, b1⟩; clear hc'; have r2 : w1.cell? ⟨w.heap.size, 2, none⟩ = some (.int .i64 k) := (b1.cell (p := ⟨w.heap.size, 2, none⟩) (by simp)).trans (by simp); have r3 : w1.cell? ⟨w.heap.size, 3, none⟩ = some (.int .i64 d) := (b1.cell (p := ⟨w.heap.size, 3, none⟩) (by simp)).trans (by simp))
  go_ret2
  have hz : w.heap.size + 1 ≤ w1.heap.size := by have := b1.size; simpa using this
  refine ⟨w1.heap.size, rfl, ⟨by simp, by simp, by simp, by simp, by simp, by simp⟩, by omega, by simp, ?_⟩
  exact (hA.trans (b1.mono (by omega))).alloc (by omega) _

set_option maxRecDepth 100000 in
set_option maxHeartbeats 2000000 in
theorem send_range (v : Value) (n : Int) (w : World) (h : n < 0 ∨ 1000 ≤ n) : Calls Tryd.prog 12 #[v, .int .i64 n] w fun e w' => e = .returned (.tuple #[.bool false, .iface 61 (.int .i64 1)]) ∧ w' = w := by
  have ho := wout_yes n w h
  clear h
  go_enter Tryd.func12, Tryd.ntmps12
  go_wp2_with (go_at_call 27; refine ho.mono ?_; rintro e w1 ⟨rfl, hw1⟩; subst hw1; clear ho)
  go_ret2
  exact ⟨rfl, rfl⟩

set_option maxRecDepth 100000 in
set_option maxHeartbeats 4000000 in
theorem send_full (base b : Nat) (dp : Int) (xs : List Int) (ls : Int) (v : Value) (n : Int) (w : World) (hn0 : 0 ≤ n) (hn1 : n < 1000) (hls : 0 ≤ ls ∧ ls < 1000000000) (hL : Ln w base b 2 dp xs ls v) (hdp : dp ≤ (xs.length : Int)) :
    Calls Tryd.prog 12 #[.pointer (some ⟨b, 0, none⟩), .int .i64 n] w fun e w' => e = .returned (.tuple #[.bool false, .nilIface]) ∧ Ln w' base b 2 dp xs (ls + 1) v ∧ Touch w w' b v v := by
  have hcc := hL.c
  have hlt := hcc.lt
  obtain ⟨c0, c1, c2, c3, f2, f3⟩ := hcc
  obtain ⟨ao, cap, rfl⟩ : ∃ ao cap, v = .slice ao xs.length cap := by
    rcases row_form hL.row with ⟨rfl, h⟩ | ⟨g, cap, rfl⟩
    · exact ⟨_, _, by rw [h]⟩
    · exact ⟨_, _, rfl⟩
  have HL : Hid (Ln w base b 2 dp xs ls (.slice ao xs.length cap)) := hL
  clear hL
  obtain ⟨hls0, hls1⟩ := hls
  go_enter Tryd.func12, Tryd.ntmps12
  go_wp2_with (go_at_call 27; refine (wout_no n _ hn0 hn1).mono ?_; rintro e wz ⟨rfl, hwz⟩; subst wz)
  go_quiet (fail)
  go_wp2
  go_ret2
  have hq := HL.out.below (below_dN (Below.refl _ w) nq)
  exact ⟨rfl, ⟨hq.c.lost _, ownsRow_setCell_below hq.row (a := ⟨b, 3, none⟩) hq.lt _, hq.lt, by have := hq.le; simpa using this⟩, ((Touch.refl w b _).dN nq).set 3 _⟩

set_option maxRecDepth 100000 in
set_option maxHeartbeats 4000000 in
theorem send_room (base b : Nat) (dp : Int) (xs : List Int) (ls : Int) (v : Value) (n : Int) (w : World) (hn0 : 0 ≤ n) (hn1 : n < 1000) (hL : Ln w base b 2 dp xs ls v) (hdp : (xs.length : Int) < dp) (hx : xs.length ≤ 1000000) :
    Calls Tryd.prog 12 #[.pointer (some ⟨b, 0, none⟩), .int .i64 n] w fun e w' => ∃ v', e = .returned (.tuple #[.bool true, .nilIface]) ∧ Ln w' base b 2 dp (xs ++ [n]) ls v' ∧ Touch w w' b v v' := by
  obtain ⟨ii, hi, hz0, hz1, hz2⟩ := info_parts infoInt
  have hcc := hL.c
  have hlt := hcc.lt
  obtain ⟨c0, c1, c2, c3, f2, f3⟩ := hcc
  obtain ⟨ao, cap, rfl⟩ : ∃ ao cap, v = .slice ao xs.length cap := by
    rcases row_form hL.row with ⟨rfl, h⟩ | ⟨g, cap, rfl⟩
    · exact ⟨_, _, by rw [h]⟩
    · exact ⟨_, _, rfl⟩
  have HL : Hid (Ln w base b 2 dp xs ls (.slice ao xs.length cap)) := hL
  clear hL
  go_enter Tryd.func12, Tryd.ntmps12
  go_wp2_with (go_at_call 27; refine (wout_no n _ hn0 hn1).mono ?_; rintro e wz ⟨rfl, hwz⟩; subst wz)
  go_quiet (fail)
  have hq := HL.out.below (below_dN (Below.refl _ w) nq)
  have HQ : Hid (Ln (w.drewN nq) base b 2 dp xs ls (.slice ao xs.length cap)) := hq
  have hrow := hq.row
  clear hq
  go_wp2_with (at_builtin; refine wpList_append_at _ rfl _ _ 24 rfl base 3 ii (.int .i64 0) 1 8 Tryd.underlying24 hi hz0 hz1 hz2 rfl (by decide) _ _ _ rfl (hrow.alloc _) ⟨(w.drewN nq).heap.size, 0, none⟩ 1 1 [.int .i64 n] rfl rfl ?c1A ?c2A ?c3A ?c4A ?c5A ?_)
  case c1A => exact one_new _ _ _
  case c2A => exact one_one n
  case c3A => unfold maxLen; omega
  case c4A => omega
  case c5A => have := HQ.out.le; simp at this ⊢; omega
  intro v1 w2 own1 hg1 hat1
  have hne1 : some b ≠ (Value.slice ao xs.length cap).ownBlock := fun e => by have := (hrow.lt _ e.symm).1; have := HQ.out.lt; omega
  have hs1 : w.heap.size + 1 ≤ w2.heap.size := by have := hg1.size; simpa using this
  have hT : Touch w w2 b (.slice ao xs.length cap) v1 := (((Touch.refl w b _).dN nq).alloc _).grown hg1 (fun k hk => by have := hat1 k hk; simpa using this)
  have hc2 : LnC w2 b 2 dp ls (.slice ao xs.length cap) := (HQ.out.c.block (Below.heap_alloc _ _ _ (by simpa using hlt))).block (hg1.block b (by simp; omega) hne1)
  have HC : Hid (LnC w2 b 2 dp ls (.slice ao xs.length cap)) := hc2
  obtain ⟨k0, k1, k2, k3, k4, k5⟩ := hc2
  clear hrow hg1 hat1 c0 c1 c2 c3 f2 f3 k0 k1 k3 k5
  have hlt2 : b < w2.heap.size := by omega
  have hrow2 := ownsRow_setCell_below own1 (a := ⟨b, 2, none⟩) HQ.out.lt v1
  obtain ⟨g1, cap1, rfl⟩ : ∃ g cap, v1 = .slice (some ⟨g, 0, none⟩) (xs.length + 1) cap := by
    rcases row_form own1 with ⟨_, h⟩ | h
    · omega
    · exact h
  clear own1
  go_wp2
  go_ret2
  exact ⟨_, rfl, ⟨HC.out.items _, by rw [ints_snoc, List.length_append]; exact hrow2, HQ.out.lt, by have := HQ.out.le; simp at this ⊢; omega⟩, hT.set 2 _⟩

set_option maxRecDepth 100000 in
set_option maxHeartbeats 4000000 in
theorem send_sample (base b : Nat) (xs : List Int) (ls : Int) (v : Value) (n : Int) (w : World) (hn0 : 0 ≤ n) (hn1 : n < 1000) (hL : Ln w base b 1 1 xs ls v) :
    Calls Tryd.prog 12 #[.pointer (some ⟨b, 0, none⟩), .int .i64 n] w fun e w' => ∃ v', e = .returned (.tuple #[.bool true, .nilIface]) ∧ Ln w' base b 1 1 [n] ls v' ∧ Touch w w' b v v' := by
  obtain ⟨ii, hi, hz0, hz1, hz2⟩ := info_parts infoInt
  have hcc := hL.c
  have hlt := hcc.lt
  obtain ⟨c0, c1, c2, c3, f2, f3⟩ := hcc
  have HL : Hid (Ln w base b 1 1 xs ls v) := hL
  have hrw := hL.row
  clear hL
  rcases row_form hrw with ⟨rfl, hx0⟩ | ⟨g, cap, rfl⟩
  · have hrow0 := World.ownsRow_nil w base 3 1
    clear hrw
    have hL1 : Ln (w.setCell ⟨b, 2, none⟩ (.slice none 0 0)) base b 1 1 [] ls (.slice none 0 0) := ⟨HL.out.c.items _, ownsRow_setCell_below hrow0 (a := ⟨b, 2, none⟩) HL.out.lt _, HL.out.lt, by have := HL.out.le; simpa using this⟩
    have hT1 : Touch w (w.setCell ⟨b, 2, none⟩ (.slice none 0 0)) b (.slice none 0 0) (.slice none 0 0) := ((Touch.refl w b _).set 2 _).cut rfl
    have HL1 : Hid (Ln (w.setCell ⟨b, 2, none⟩ (.slice none 0 0)) base b 1 1 [] ls (.slice none 0 0)) := hL1
    clear hL1
    go_enter Tryd.func12, Tryd.ntmps12
    go_wp2_with (go_at_call 27; refine (wout_no n _ hn0 hn1).mono ?_; rintro e wz ⟨rfl, hwz⟩; subst wz)
    go_quiet (fail)
    have hq := HL1.out.below (below_dN (Below.refl _ _) nq)
    have HQ : Hid (Ln ((w.setCell ⟨b, 2, none⟩ (.slice none 0 0)).drewN nq) base b 1 1 [] ls (.slice none 0 0)) := hq
    have hrow := hq.row
    clear hq
    go_wp2_with (at_builtin; refine wpList_append_at _ rfl _ _ 24 rfl base 3 ii (.int .i64 0) 1 8 Tryd.underlying24 hi hz0 hz1 hz2 rfl (by decide) _ _ _ rfl (hrow.alloc _) ⟨w.heap.size, 0, none⟩ 1 1 [.int .i64 n] rfl rfl ?c1A ?c2A ?c3A ?c4A ?c5A ?_)
    case c1A => exact one_new_at (by simp) _ _
    case c2A => exact one_one n
    case c3A => unfold maxLen; simp
    case c4A => simp
    case c5A => have := HQ.out.le; simp at this ⊢; omega
    intro v1 w2 own1 hg1 hat1
    have hne1 : some b ≠ (Value.slice none 0 0).ownBlock := fun e => by have := (hrow.lt _ e.symm).1; have := HQ.out.lt; omega
    have hs1 : w.heap.size + 1 ≤ w2.heap.size := by have := hg1.size; simpa using this
    have hT : Touch w w2 b (.slice none 0 0) v1 := ((hT1.dN nq).alloc _).grown hg1 (fun k hk => by have := hat1 k hk; simpa using this)
    have hc2 : LnC w2 b 1 1 ls (.slice none 0 0) := (HQ.out.c.block (Below.heap_alloc _ _ _ (by simpa using hlt))).block (hg1.block b (by simp; omega) hne1)
    have HC : Hid (LnC w2 b 1 1 ls (.slice none 0 0)) := hc2
    obtain ⟨k0, k1, k2, k3, k4, k5⟩ := hc2
    clear hrow hg1 hat1 c0 c1 c2 c3 f2 f3 k0 k1 k3 k5
    have hlt2 : b < w2.heap.size := by omega
    have hrow2 := ownsRow_setCell_below own1 (a := ⟨b, 2, none⟩) HQ.out.lt v1
    obtain ⟨g1, cap1, rfl⟩ : ∃ g cap, v1 = .slice (some ⟨g, 0, none⟩) 1 cap := by
      rcases row_form own1 with ⟨_, h⟩ | h
      · simp at h
      · simpa using h
    clear own1
    go_wp2
    go_ret2
    exact ⟨_, rfl, ⟨HC.out.items _, hrow2, HQ.out.lt, by have := HQ.out.le; simp at this ⊢; omega⟩, hT.set 2 _⟩
  · obtain ⟨hg0, hg1, hg2, hg3, _, _, _⟩ := own_cap hrw
    have hrow0 := own_cut hrw (Nat.zero_le _)
    unfold maxLen at hg3
    clear hrw
    have hL1 : Ln (w.setCell ⟨b, 2, none⟩ (.slice (some ⟨g, 0, none⟩) 0 cap)) base b 1 1 [] ls (.slice (some ⟨g, 0, none⟩) 0 cap) := ⟨HL.out.c.items _, ownsRow_setCell_below hrow0 (a := ⟨b, 2, none⟩) HL.out.lt _, HL.out.lt, by have := HL.out.le; simpa using this⟩
    have hT1 : Touch w (w.setCell ⟨b, 2, none⟩ (.slice (some ⟨g, 0, none⟩) 0 cap)) b (.slice (some ⟨g, 0, none⟩) xs.length cap) (.slice (some ⟨g, 0, none⟩) 0 cap) := ((Touch.refl w b _).set 2 _).cut rfl
    have HL1 : Hid (Ln (w.setCell ⟨b, 2, none⟩ (.slice (some ⟨g, 0, none⟩) 0 cap)) base b 1 1 [] ls (.slice (some ⟨g, 0, none⟩) 0 cap)) := hL1
    clear hL1
    go_enter Tryd.func12, Tryd.ntmps12
    go_wp2_with (go_at_call 27; refine (wout_no n _ hn0 hn1).mono ?_; rintro e wz ⟨rfl, hwz⟩; subst wz)
    go_quiet (fail)
    have hq := HL1.out.below (below_dN (Below.refl _ _) nq)
    have HQ : Hid (Ln ((w.setCell ⟨b, 2, none⟩ (.slice (some ⟨g, 0, none⟩) 0 cap)).drewN nq) base b 1 1 [] ls (.slice (some ⟨g, 0, none⟩) 0 cap)) := hq
    have hrow := hq.row
    clear hq
    go_wp2_with (at_builtin; refine wpList_append_at _ rfl _ _ 24 rfl base 3 ii (.int .i64 0) 1 8 Tryd.underlying24 hi hz0 hz1 hz2 rfl (by decide) _ _ _ rfl (hrow.alloc _) ⟨w.heap.size, 0, none⟩ 1 1 [.int .i64 n] rfl rfl ?c1A ?c2A ?c3A ?c4A ?c5A ?_)
    case c1A => exact one_new_at (by simp) _ _
    case c2A => exact one_one n
    case c3A => unfold maxLen; simp
    case c4A => simp
    case c5A => have := HQ.out.le; simp at this ⊢; omega
    intro v1 w2 own1 hg1 hat1
    have hne1 : some b ≠ (Value.slice (some ⟨g, 0, none⟩) 0 cap).ownBlock := fun e => by have := (hrow.lt _ e.symm).1; have := HQ.out.lt; omega
    have hs1 : w.heap.size + 1 ≤ w2.heap.size := by have := hg1.size; simpa using this
    have hT : Touch w w2 b (.slice (some ⟨g, 0, none⟩) xs.length cap) v1 := ((hT1.dN nq).alloc _).grown hg1 (fun k hk => by have := hat1 k hk; simpa using this)
    have hc2 : LnC w2 b 1 1 ls (.slice (some ⟨g, 0, none⟩) 0 cap) := (HQ.out.c.block (Below.heap_alloc _ _ _ (by simpa using hlt))).block (hg1.block b (by simp; omega) hne1)
    have HC : Hid (LnC w2 b 1 1 ls (.slice (some ⟨g, 0, none⟩) 0 cap)) := hc2
    obtain ⟨k0, k1, k2, k3, k4, k5⟩ := hc2
    clear hrow hg1 hat1 c0 c1 c2 c3 f2 f3 k0 k1 k3 k5
    have hlt2 : b < w2.heap.size := by omega
    have hrow2 := ownsRow_setCell_below own1 (a := ⟨b, 2, none⟩) HQ.out.lt v1
    obtain ⟨g1, cap1, rfl⟩ : ∃ g cap, v1 = .slice (some ⟨g, 0, none⟩) 1 cap := by
      rcases row_form own1 with ⟨_, h⟩ | h
      · simp at h
      · simpa using h
    clear own1
    go_wp2
    go_ret2
    exact ⟨_, rfl, ⟨HC.out.items _, hrow2, HQ.out.lt, by have := HQ.out.le; simp at this ⊢; omega⟩, hT.set 2 _⟩
end Go.Proofs.YtfconbblnmbnpacDoor
namespace Go.Proofs.YtfconbblnmbnpacDoor
open Go.RowKit

/-- Both lines: the program's holds xs, the document's ys. -/
structure Mid (w : World) (base bl bm : Nat) (kd dp : Int) (xs : List Int) (ls : Int) (v : Value) (ys : List Int) (ms : Int) (u : Value) : Prop where
  p : Ln w base bl kd dp xs ls v
  r : Rl w base bm kd dp ys ms u
  apart : ∀ k, v.ownBlock = some k → u.ownBlock ≠ some k
  ne : bl ≠ bm
theorem Mid.stepR {w w' : World} {base bl bm : Nat} {kd dp ls ms ms' : Int} {xs ys ys' : List Int} {v u u' : Value} (h : Mid w base bl bm kd dp xs ls v ys ms u) (hR : Rl w' base bm kd dp ys' ms' u') (hT : RTouch w w' bm u u') : Mid w' base bl bm kd dp xs ls v ys' ms' u' := by
  have hle := h.p.le
  have hlt := h.p.lt
  have hrl := h.r.lt
  refine ⟨⟨h.p.c.block (hT.block bl (by omega) h.ne), own_block h.p.row (fun k hk => hT.block k (h.p.row.lt k hk).2 (by have := (h.p.row.lt k hk).1; omega)), h.p.lt, Nat.le_trans h.p.le hT.size⟩, hR, fun k hk hu => ?_, h.ne⟩
  rcases hT.new k hu with h1 | h1
  · exact h.apart k hk h1
  · have := (h.p.row.lt k hk).2
    omega
theorem Mid.stepP {w w' : World} {base bl bm : Nat} {kd dp ls ls' ms : Int} {xs xs' ys : List Int} {v v' u : Value} (h : Mid w base bl bm kd dp xs ls v ys ms u) (hL : Ln w' base bl kd dp xs' ls' v') (hT : Touch w w' bl v v') : Mid w' base bl bm kd dp xs' ls' v' ys ms u := by
  have hle := h.p.le
  have hlt := h.p.lt
  have hrl := h.r.lt
  refine ⟨hL, ⟨h.r.c.block (hT.block bm (by omega) (fun e => h.ne e.symm) (fun e => by have := (h.p.row.lt bm e.symm).1; omega)), h.r.rd.block (fun k hk hu => hT.block k hk (by have := (h.r.own k hu).1; omega) (fun e => h.apart k e.symm hu)) hT.size, fun k hk => by have := h.r.own k hk; have := hT.size; omega, h.r.lt, Nat.le_trans h.r.le hT.size⟩, fun k hk hu => ?_, h.ne⟩
  rcases hT.new k hk with h1 | h1
  · exact h.apart k h1 hu
  · have := (h.r.own k hu).2
    omega
theorem Mid.below {w w' : World} {base bl bm : Nat} {kd dp ls ms : Int} {xs ys : List Int} {v u : Value} (h : Mid w base bl bm kd dp xs ls v ys ms u) (hb : Below w.heap.size w w') : Mid w' base bl bm kd dp xs ls v ys ms u :=
  ⟨h.p.below hb, ⟨h.r.c.block (hb.block bm h.r.c.lt), h.r.rd.all hb, fun k hk => by have := h.r.own k hk; have := hb.size; omega, h.r.lt, Nat.le_trans h.r.le hb.size⟩, h.apart, h.ne⟩
theorem Touch.low {B : Nat} {w0 w w2 : World} {base bl bm : Nat} {kd dp ls ms : Int} {xs ys : List Int} {v v' u : Value} (h : Mid w base bl bm kd dp xs ls v ys ms u) (hw : Below B w0 w) (hB : B ≤ w.heap.size) (hb : B ≤ bl) (hT : Touch w w2 bl v v') : Below B w0 w2 :=
  hw.trans (hT.below hb (h.p.own (Nat.le_trans hb (Nat.le_of_lt h.p.lt))) hB)
theorem RTouch.low {B : Nat} {w0 w w2 : World} {bm : Nat} {u u' : Value} (hw : Below B w0 w) (hB : B ≤ w.heap.size) (hb : B ≤ bm) (hT : RTouch w w2 bm u u') : Below B w0 w2 := hw.trans (hT.below hb hB)

set_option maxRecDepth 100000 in
set_option maxHeartbeats 4000000 in
theorem play_bad (f t k d : Int) (sv : Value) (w : World) (hE : ErrT w) (h : wchk f t k d ≠ 0) :
    Calls Tryd.prog 3 #[wV f t k d, sv] w fun ev w' => ev = .returned (.bool true) ∧ Below w.heap.size w w' := by
  have hA : Below w.heap.size w (w.alloc (.cells #[.int .i64 f, .int .i64 t, .int .i64 k, .int .i64 d] 23)) := (Below.refl _ _).alloc (Nat.le_refl _) _
  have hr := refwire_any f t k d (w.alloc (.cells #[.int .i64 f, .int .i64 t, .int .i64 k, .int .i64 d] 23))
  have HN : Hid (∀ W, Calls Tryd.prog 8 #[wV f t k d] W fun e w' => e = .returned (.tuple #[.pointer none, .iface 61 (.int .i64 (wchk f t k d))]) ∧ Below W.heap.size W w') := fun W => wnew_no f t k d W h
  have HC : Hid (∀ W, Calls Tryd.prog 7 #[wV f t k d] W fun e w' => e = .returned (.iface 61 (.int .i64 (wchk f t k d))) ∧ Below W.heap.size W w') := fun W => by
    have := wcheck_any f t k d W
    rw [wErr_not h] at this
    exact this
  have HX : Hid (∀ W, Below w.heap.size w W → Calls Tryd.prog 6 #[.iface 61 (.int .i64 (wchk f t k d)), .int .i64 (wchk f t k d)] W fun r w' => r = .returned (.bool true) ∧ Below W.heap.size W w') := fun W hW => by
    have := error_any (wchk f t k d) (wchk f t k d) W (hE.all hW)
    rw [wErr_not h] at this
    simpa using this
  have hq : ¬ wchk f t k d = 0 := h
  generalize wchk f t k d = q at hr HN HC HX hq
  clear h hE
  have HQ : Hid (∀ W, Below (w.heap.size + 1) (w.alloc (.cells #[.int .i64 f, .int .i64 t, .int .i64 k, .int .i64 d] 23)) W → (W.cell? ⟨w.heap.size, 0, none⟩ = some (.int .i64 f) ∧ W.cell? ⟨w.heap.size, 1, none⟩ = some (.int .i64 t) ∧ W.cell? ⟨w.heap.size, 2, none⟩ = some (.int .i64 k) ∧ W.cell? ⟨w.heap.size, 3, none⟩ = some (.int .i64 d)) ∧ w.heap.size < W.heap.size ∧ Below w.heap.size w W) := fun W hW => ⟨⟨(hW.cell (p := ⟨w.heap.size, 0, none⟩) (by simp)).trans (by simp), (hW.cell (p := ⟨w.heap.size, 1, none⟩) (by simp)).trans (by simp), (hW.cell (p := ⟨w.heap.size, 2, none⟩) (by simp)).trans (by simp), (hW.cell (p := ⟨w.heap.size, 3, none⟩) (by simp)).trans (by simp)⟩, by have := hW.size; simp at this; omega, hA.trans (hW.mono (Nat.le_succ _))⟩
  unfold wV at hr HN HC ⊢
  go_enter Tryd.func3, Tryd.ntmps3
  go_wp2_with (first
    | (go_at_call 5; refine hr.mono ?_; rintro e w1 ⟨rfl, b1⟩; clear hr; replace b1 : Below (w.heap.size + 1) (w.alloc (.cells #[.int .i64 f, .int .i64 t, .int .i64 k, .int .i64 d] 23)) w1 := by simpa using b1
       obtain ⟨⟨r0, r1, r2, r3⟩, hlt1, _⟩ := HQ.out w1 b1
       have hc := HC.out w1; clear HC)
    | (go_at_call 7; refine hc.mono ?_; rintro e w2 ⟨rfl, b2⟩; clear hc; replace b2 := b1.trans (b2.mono hlt1)
       clear r0 r1 r2 r3
       obtain ⟨⟨r0, r1, r2, r3⟩, hlt2, hb2⟩ := HQ.out w2 b2
       have hx1 := HX.out w2 hb2)
    | (go_at_call 6; refine hx1.mono ?_; rintro e w3 ⟨rfl, b3⟩; clear hx1; replace b3 := b2.trans (b3.mono hlt2)
       clear r0 r1 r2 r3
       obtain ⟨⟨r0, r1, r2, r3⟩, hlt3, hb3⟩ := HQ.out w3 b3
       have hn := HN.out w3; clear HN)
    | (go_at_call 8; refine hn.mono ?_; rintro e w4 ⟨rfl, b4⟩; clear hn; replace b4 := b3.trans (b4.mono hlt3)
       clear r0 r1 r2 r3
       obtain ⟨_, hlt4, hb4⟩ := HQ.out w4 b4
       have hx2 := HX.out w4 hb4; clear HX)
    | (go_at_call 6; refine hx2.mono ?_; rintro e w5 ⟨rfl, b5⟩; clear hx2))
  go_ret
  exact ⟨rfl, hb4.trans (b5.mono hb4.size)⟩
end Go.Proofs.YtfconbblnmbnpacDoor
