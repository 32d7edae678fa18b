/-
  SnText0, StEq, KTurns0, StL, SgtCR, SnBox, WCon, SgtRunG, TopOne: joined into one text.
-/
import Derived.Test.YtajfgmlockjmhaiGreatDoorJa16
import Derived.Test.YtajfgmlockjmhaiGreatDoorJa2
import Derived.Test.YtajfgmlockjmhaiGreatDoorJa3
import Derived.Test.YtajfgmlockjmhaiGreatDoorJa1
import Derived.Laws.StructEq
import Derived.Test.YtajfgmlockjmhaiGreatDoorJa15
import Derived.RangeFuncRecord
import Derived.Deep.RegionWith
import Derived.BigQuiet
import Derived.Test.YtajfgmlockjmhaiGreatDoorJa10
import Derived.Deep.RegionLaw
import Derived.Deep.CutRange
import Derived.RangeFuncNested
namespace Go.Proofs.YtajfgmlockjmhaiGreatDoor
open Go.RowKit

set_option maxRecDepth 100000 in
set_option maxHeartbeats 1000000 in
theorem flag_any (b : Bool) (w : World) : Calls Tryz.prog 70 #[.bool b] w fun e w' => e = .returned (.int .i64 (if b = true then 1 else 0)) ∧ w' = w := by
  cases b
  · go_enter Tryz.func70, Tryz.ntmps70
    go_wp2
    go_ret
    exact ⟨rfl, rfl⟩
  · go_enter Tryz.func70, Tryz.ntmps70
    go_wp2
    go_ret
    exact ⟨rfl, rfl⟩
theorem ints_one (xs : List Int) : ∀ u ∈ ints xs, u.oneCell' = true := by
  intro u hu
  obtain ⟨x, _, rfl⟩ := List.mem_map.1 hu
  rfl
/-- A line of a word and numbers that lie in a row. -/
theorem line_row {base : Nat} (word : List UInt8) (v : Value) (zs : List Int) (W : World) (hp : Pow10 W) (hv : W.ownsRow base 3 1 v zs.length (ints zs)) (hne : zs ≠ []) (hz : ∀ z ∈ zs, 0 ≤ z ∧ z ≤ 100000000) (hw : word.length ≤ 10) (hl : zs.length ≤ 10) :
    Calls Tryz.prog 68 #[.string ⟨word.toArray⟩, v] W fun e w' => e = .returned (.string ⟨((word ++ tail zs) ++ [10]).toArray⟩) ∧ Below W.heap.size W w' := by
  have hi : Ints W v zs := by
    rcases row_form hv with ⟨rfl, h0⟩ | ⟨g, cap, rfl⟩
    · exact absurd (List.eq_nil_of_length_eq_zero h0) hne
    · obtain ⟨_, h2, h3, h4, h5, _, _⟩ := own_cap hv
      exact Or.inr ⟨⟨g, 0, none⟩, cap, rfl, h2, fun i x hx => by rw [Addr.add_lit, Nat.zero_add]; exact h5 i _ (ints_at hx)⟩
  have q := line_any ⟨word.toArray⟩ v zs W hp hi (fun z h => by have := hz z h; omega) (by rw [ba_size]; omega)
  simpa [lineB] using q
theorem conc_room (s : St) (b g g1 g2 : Nat) (W : World) (hg : g < W.heap.size) (h1 : g1 < W.heap.size) (hb : b < W.heap.size) (h2 : g2 < W.heap.size)
    (c0 : W.cell? ⟨g, 0, none⟩ = some (.slice (some ⟨g1, 0, none⟩) 1 1)) (c1 : W.cell? ⟨g, 1, none⟩ = some (.slice (some ⟨b, 1, none⟩) 6 6)) (c2 : W.cell? ⟨g, 2, none⟩ = some (.slice (some ⟨g2, 0, none⟩) 1 1))
    (d0 : W.cell? ⟨g1, 0, none⟩ = some (.int .i64 s.p)) (d1 : ∀ i, i < 6 → W.cell? ⟨b, 1 + i, none⟩ = some (.int .i64 (s.c i))) (d2 : W.cell? ⟨g2, 0, none⟩ = some (.int .i64 (if s.f = true then 1 else 0))) :
    Calls Tryz.prog 69 #[.slice (some ⟨g, 0, none⟩) 3 3] W fun e w' => ∃ ao c, e = .returned (.slice ao 8 c) ∧ w'.ownsRow W.heap.size 3 1 (.slice ao 8 c) (stN s).length (ints (stN s)) ∧ Below W.heap.size W w' := by
  have hfl : [ints [s.p], ints [s.c 0, s.c 1, s.c 2, s.c 3, s.c 4, s.c 5], ints [if s.f = true then 1 else 0]].flatten = ints (stN s) := by simp [ints, stN]
  have hln : (ints (stN s)).length = 8 := by simp [ints, stN]
  have q := concatI [.slice (some ⟨g1, 0, none⟩) 1 1, .slice (some ⟨b, 1, none⟩) 6 6, .slice (some ⟨g2, 0, none⟩) 1 1] [ints [s.p], ints [s.c 0, s.c 1, s.c 2, s.c 3, s.c 4, s.c 5], ints [if s.f = true then 1 else 0]] g 3 W rfl (Nat.le_refl _) (by rw [hfl, hln]; omega) (by rw [hfl, hln]; omega) hg
    (fun i v hv => by
      match i, hv with
      | 0, hv => simp at hv; subst hv; exact c0
      | 1, hv => simp at hv; subst hv; exact c1
      | 2, hv => simp at hv; subst hv; exact c2
      | i + 3, hv => simp at hv)
    (fun i v l hv hl => by
      match i, hv, hl with
      | 0, hv, hl =>
        simp at hv hl
        subst hv
        subst hl
        refine Or.inr ⟨g1, 0, 1, rfl, h1, fun j x hx => ?_⟩
        match j, hx with
        | 0, hx => simp [ints] at hx; subst hx; exact d0
        | j + 1, hx => simp [ints] at hx
      | 1, hv, hl =>
        simp at hv hl
        subst hv
        subst hl
        refine Or.inr ⟨b, 1, 6, rfl, hb, fun j x hx => ?_⟩
        match j, hx with
        | 0, hx => simp [ints] at hx; subst hx; exact d1 0 (by decide)
        | 1, hx => simp [ints] at hx; subst hx; exact d1 1 (by decide)
        | 2, hx => simp [ints] at hx; subst hx; exact d1 2 (by decide)
        | 3, hx => simp [ints] at hx; subst hx; exact d1 3 (by decide)
        | 4, hx => simp [ints] at hx; subst hx; exact d1 4 (by decide)
        | 5, hx => simp [ints] at hx; subst hx; exact d1 5 (by decide)
        | j + 6, hx => simp [ints] at hx
      | 2, hv, hl =>
        simp at hv hl
        subst hv
        subst hl
        refine Or.inr ⟨g2, 0, 1, rfl, h2, fun j x hx => ?_⟩
        match j, hx with
        | 0, hx => simp [ints] at hx; subst hx; exact d2
        | j + 1, hx => simp [ints] at hx
      | i + 3, hv, _ => simp at hv)
    (fun l hl y hy => by
      simp only [List.mem_cons, List.not_mem_nil, or_false] at hl
      rcases hl with rfl | rfl | rfl <;> exact ints_one _ y hy)
  rw [hfl, hln] at q
  exact q
theorem conc_wire (n : Int) (xs : List Int) (g g1 cap : Nat) (ao : Option Addr) (W : World) (hx : xs.length ≤ 6) (hg : g < W.heap.size) (h1 : g1 < W.heap.size) (c0 : W.cell? ⟨g, 0, none⟩ = some (.slice (some ⟨g1, 0, none⟩) 1 1)) (c1 : W.cell? ⟨g, 1, none⟩ = some (.slice ao xs.length cap))
    (d0 : W.cell? ⟨g1, 0, none⟩ = some (.int .i64 n)) (hr : Rd W (.slice ao xs.length cap) xs) :
    Calls Tryz.prog 69 #[.slice (some ⟨g, 0, none⟩) 2 2] W fun e w' => ∃ ao c, e = .returned (.slice ao (xs.length + 1) c) ∧ w'.ownsRow W.heap.size 3 1 (.slice ao (xs.length + 1) c) (n :: xs).length (ints (n :: xs)) ∧ Below W.heap.size W w' := by
  have hfl : [ints [n], ints xs].flatten = ints (n :: xs) := by simp [ints]
  have hln : (ints (n :: xs)).length = xs.length + 1 := by simp [ints]
  have q := concatI [.slice (some ⟨g1, 0, none⟩) 1 1, .slice ao xs.length cap] [ints [n], ints xs] g 2 W rfl (by simp) (by rw [hfl, hln]; omega) (by rw [hfl, hln]; omega) hg
    (fun i v hv => by
      match i, hv with
      | 0, hv => simp at hv; subst hv; exact c0
      | 1, hv => simp at hv; subst hv; exact c1
      | i + 2, hv => simp at hv)
    (fun i v l hv hl => by
      match i, hv, hl with
      | 0, hv, hl =>
        simp at hv hl
        subst hv
        subst hl
        refine Or.inr ⟨g1, 0, 1, rfl, h1, fun j x hx => ?_⟩
        match j, hx with
        | 0, hx => simp [ints] at hx; subst hx; exact d0
        | j + 1, hx => simp [ints] at hx
      | 1, hv, hl =>
        simp at hv hl
        subst hv
        subst hl
        rcases hr with ⟨hx, ao', cap', he⟩ | ⟨g', off, cap', he, _, _, h3, h4⟩
        · exact Or.inl ⟨by rw [hx]; rfl, ao, cap, by rw [hx]; rfl⟩
        · refine Or.inr ⟨g', off, cap', by rw [he, ints_len], h3, fun j x hx => ?_⟩
          unfold ints at hx
          rw [List.getElem?_map] at hx
          obtain ⟨y, hy, rfl⟩ := Option.map_eq_some_iff.1 hx
          exact h4 j y hy
      | i + 2, hv, _ => simp at hv)
    (fun l hl y hy => by
      simp only [List.mem_cons, List.not_mem_nil, or_false] at hl
      rcases hl with rfl | rfl <;> exact ints_one _ y hy)
  rw [hfl, hln] at q
  exact q
end Go.Proofs.YtajfgmlockjmhaiGreatDoor
namespace Go.Proofs.YtajfgmlockjmhaiGreatDoor
open Go.RowKit

theorem fieldsSt : Tryz.prog.underlying 73 = some (.struct (Tryz.prog.fieldsOf 73)) := by kernel_rfl
theorem stoodSt : Tryz.prog.stoodInHeld 73 = false := by kernel_rfl
theorem guardSt : Tryz.prog.eqGuardType Tryz.prog.depth 73 = false := by kernel_rfl
theorem fieldsStIs : Tryz.prog.fieldsOf 73 = #[{ name := "At", type := 3, offset := 0, embedded := false, tag := "", pkgPath := "", byteOffset := 0 }, { name := "Cells", type := 71, offset := 1, embedded := false, tag := "", pkgPath := "", byteOffset := 8 }, { name := "Failed", type := 4, offset := 7, embedded := false, tag := "", pkgPath := "", byteOffset := 56 }] := by kernel_rfl
theorem eqIn_six (a b c d e f : Int) (w : World) : (Op.equalIn 9999 71 (.agg #[.int .i64 a, .int .i64 b, .int .i64 c, .int .i64 d, .int .i64 e, .int .i64 f]) (.agg #[.int .i64 a, .int .i64 b, .int .i64 c, .int .i64 d, .int .i64 e, .int .i64 f])).run Tryz.prog w = .ok true w := by
  obtain ⟨n, hn⟩ : ∃ n, n + 1 = 9999 := ⟨9998, rfl⟩
  obtain ⟨m, hm⟩ : ∃ m, n = m + 1 := ⟨9997, by omega⟩
  rw [← hn]
  clear hn
  have hq : ∀ (x : Int) (w : World), (Op.equalIn n 3 (.int .i64 x) (.int .i64 x)).run Tryz.prog w = .ok true w := fun x w => by
    rw [hm, run_equalIn_int w m 3 .i64 .i64 x x Tryz.underlying3]
    simp
  clear hm
  simp only [Op.equalIn, Sem.run_bind, run_underlying Tryz.underlying71, Result.andThen_ok]
  simp [List.range', go_sem, hq]
theorem eqIn_st (p a b c d e f : Int) (g : Bool) (w : World) : (Op.equalIn 10000 73 (.agg #[.int .i64 p, .int .i64 a, .int .i64 b, .int .i64 c, .int .i64 d, .int .i64 e, .int .i64 f, .bool g]) (.agg #[.int .i64 p, .int .i64 a, .int .i64 b, .int .i64 c, .int .i64 d, .int .i64 e, .int .i64 f, .bool g])).run Tryz.prog w = .ok true w := by
  rw [run_equalIn_agg _ _ _ _ _ fieldsSt stoodSt, fieldsStIs]
  simp [go_sem, Tryz.underlying3, Tryz.underlying4, eqIn_six]
theorem eql_st (p a b c d e f : Int) (g : Bool) (w : World) : (binOp .eql 73 (.agg #[.int .i64 p, .int .i64 a, .int .i64 b, .int .i64 c, .int .i64 d, .int .i64 e, .int .i64 f, .bool g]) (.agg #[.int .i64 p, .int .i64 a, .int .i64 b, .int .i64 c, .int .i64 d, .int .i64 e, .int .i64 f, .bool g])).run Tryz.prog w = .ok (.bool true) w := by
  rw [run_eql_struct, eqIn_st]
  rfl
theorem neq_st (p a b c d e f : Int) (g : Bool) (w : World) : (binOp .neq 73 (.agg #[.int .i64 p, .int .i64 a, .int .i64 b, .int .i64 c, .int .i64 d, .int .i64 e, .int .i64 f, .bool g]) (.agg #[.int .i64 p, .int .i64 a, .int .i64 b, .int .i64 c, .int .i64 d, .int .i64 e, .int .i64 f, .bool g])).run Tryz.prog w = .ok (.bool false) w := by
  rw [run_neq_struct, eqIn_st]
  rfl
end Go.Proofs.YtajfgmlockjmhaiGreatDoor
namespace Go.Proofs.YtajfgmlockjmhaiGreatDoor
open Go.RowKit

/-- The law's own plan: one room that sets a cell, every second tick. -/
def toyP : PD := ⟨[[(1, 2, 7)]], 2, [(0, 1, 0)], []⟩
theorem toy_ok : plchk toyP = 0 := by decide +kernel
theorem toy_first : (tickK toyP toyP.spans (kT toyP 0)).2 = (0, 0, 0, 0) := by decide +kernel
theorem toy_state : (roomK (kT toyP 1) 0).c 2 = 7 ∧ noRoom (kT toyP 1) 0 = false := by decide +kernel
theorem toy_next : (tickK toyP toyP.spans (kT toyP 1)).2.2.1 = -1 := by decide +kernel
/-- It lies in the world. -/
theorem toy_pln (W : World) (n : Nat) (hn : n = W.heap.size) : Pln (((W.alloc (.cells #[.int .i64 1, .int .i64 2, .int .i64 7] 28)).alloc (.cells #[.slice (some ⟨n, 0, none⟩) 1 1] 29)).alloc (.cells #[.int .i64 0, .int .i64 1, .int .i64 0] 82)) (.slice (some ⟨n + 1, 0, none⟩) 1 1) (.slice (some ⟨n + 2, 0, none⟩) 1 1) (.slice none 0 0) toyP := by
  subst hn
  refine ⟨Or.inr ⟨_, 0, 1, rfl, Nat.le_refl _, by simp, fun i c hi => ?_⟩, Or.inr ⟨_, 0, 1, rfl, Nat.le_refl _, by simp, fun i s hi => ?_⟩, Or.inl ⟨rfl, _, _, rfl⟩⟩
  · match i, hi with
    | 0, hi =>
      simp [toyP] at hi
      subst hi
      refine ⟨.slice (some ⟨W.heap.size, 0, none⟩) 1 1, by simp [go_sem], Or.inr ⟨W.heap.size, 0, 1, rfl, by simp; omega, fun j o ho => ?_⟩⟩
      match j, ho with
      | 0, ho => simp at ho; subst ho; simp [go_sem]
      | j + 1, ho => simp at ho
    | i + 1, hi => simp [toyP] at hi
  · match i, hi with
    | 0, hi => simp [toyP] at hi; subst hi; simp [go_sem]
    | i + 1, hi => simp [toyP] at hi
/-- The room of an event that is a value. -/
theorem field_room (a b c d : Int) (w : World) : (Instr.field 39 (.agg #[.int .i64 a, .int .i64 b, .int .i64 c, .int .i64 d]) 1).run Tryz.prog w = .ok (.int .i64 b) w := by kernel_rfl
/-- A row of states that is owned: where each lies. -/
theorem was_at {W : World} {base n : Nat} {v : Value} {l : List St} (h : W.ownsRow base 73 8 v n (stCells l)) (hn : n ≠ 0) : ∃ g cap, v = .slice (some ⟨g, 0, none⟩) n cap ∧ base ≤ g ∧ g < W.heap.size ∧ ∀ (r : Nat) s, l[r]? = some s → StC W g (r * 8) s := by
  rcases h.2 with ⟨_, h3⟩ | ⟨g, cap, cur, h2, h3, h4, _⟩
  · exact absurd h3 hn
  · refine ⟨g, cap, h2, h3, (Array.getElem?_eq_some_iff.1 h4).1, fun r s hs => ?_⟩
    have hc : ∀ j u, (stCells l)[j]? = some u → W.cell? ⟨g, j, none⟩ = some u := fun j u hj => by
      have := h.cells (g := g) (by rw [h2]; rfl) j u hj
      rw [Addr.add_lit, Nat.zero_add] at this
      exact this
    obtain ⟨h0, h1, h2, h3, h4, h5, h6, h7⟩ := stCells_at l r s hs
    exact ⟨hc _ _ h0, hc _ _ h1, hc _ _ h2, hc _ _ h3, hc _ _ h4, hc _ _ h5, hc _ _ h6, hc _ _ h7⟩
/-- What was held, laid by: each with its numbers. -/
structure HRow (k : KD) (B : Nat) (W : World) (v : Value) (l : List (Value × Int)) : Prop where
  own : W.ownsRow B 100 2 v l.length (hdCells l)
  rd : ∀ (i : Nat) x ln, l[i]? = some x → k.lines[i]? = some ln → Rd W x.1 ln.xs ∧ x.2 = ln.ls
  ap : ∀ x ∈ l, ∀ g, x.1.ownBlock = some g → B ≤ g ∧ g < W.heap.size ∧ v.ownBlock ≠ some g
theorem HRow.nil (k : KD) (W : World) : HRow k W.heap.size W (.slice none 0 0) [] := ⟨World.ownsRow_nil _ _ _ _, fun i x ln h => by simp at h, fun x hx => by cases hx⟩
theorem HRow.rlt {k : KD} {B : Nat} {W : World} {v : Value} {l : List (Value × Int)} (h : HRow k B W v l) : ∀ g, v.ownBlock = some g → B ≤ g ∧ g < W.heap.size := fun g hg => by
  rcases h.own.2 with ⟨h2, _⟩ | ⟨g', cap, cur, h2, h3, h4, _⟩
  · rw [h2] at hg
    cases hg
  · rw [h2] at hg
    simp only [Value.ownBlock, Option.some.injEq] at hg
    subst hg
    exact ⟨h3, (Array.getElem?_eq_some_iff.1 h4).1⟩
/-- What is written lies ahead of it. -/
theorem HRow.touch {k : KD} {B : Nat} {W W' : World} {v : Value} {l : List (Value × Int)} (h : HRow k B W v l) {M : List Nat} (ht : KTouch M W W') (hM : ∀ m ∈ M, m < B) : HRow k B W' v l := by
  refine ⟨own_block h.own (fun g hg => ht.block g (h.rlt g hg).2 (fun hm => ?_)), fun i x ln hx hl => ?_, fun x hx g hg => ?_⟩
  · have := hM g hm
    have := (h.rlt g hg).1
    omega
  · obtain ⟨h1, h2⟩ := h.rd i x ln hx hl
    refine ⟨h1.block (fun g hg he => ht.block g hg (fun hm => ?_)) ht.size, h2⟩
    have := hM g hm
    have := (h.ap x (List.mem_of_getElem? hx) g he).1
    omega
  · obtain ⟨h1, h2, h3⟩ := h.ap x hx g hg
    exact ⟨h1, Nat.lt_of_lt_of_le h2 ht.size, h3⟩
/-- One more. -/
theorem HRow.more {k : KD} {B : Nat} {W w7 w8 : World} {v v' u : Value} {l : List (Value × Int)} {ln : LnD} (h : HRow k B W v l) (hB : B ≤ W.heap.size) (hln : k.lines[l.length]? = some ln) (b7 : Below W.heap.size W w7) (hu : Rd w7 u ln.xs) (hf : ∀ g, u.ownBlock = some g → W.heap.size ≤ g ∧ g < w7.heap.size)
    {o1 o2 : Obj} (hg : ((w7.alloc o1).alloc o2).grownBy w8 v.ownBlock) (hown : w8.ownsRow B 100 2 v' (l.length + 1) (hdCells l ++ [u, .int .i64 ln.ls])) (hnew : ∀ g, v'.ownBlock = some g → v.ownBlock = some g ∨ w7.heap.size + 2 ≤ g) : HRow k B w8 v' (l ++ [(u, ln.ls)]) := by
  have hbl : Below w7.heap.size w7 ((w7.alloc o1).alloc o2) := ((Below.refl _ _).alloc (Nat.le_refl _) _).alloc (by simp) _
  have hs2 : ((w7.alloc o1).alloc o2).heap.size = w7.heap.size + 2 := by simp
  have hs8 : w7.heap.size + 2 ≤ w8.heap.size := by have := hg.size; omega
  have hs7 := b7.size
  have hk : ∀ g, g < w7.heap.size → v.ownBlock ≠ some g → w8.heap[g]? = w7.heap[g]? := fun g h1 h2 => (hg.block g (by omega) (fun e => h2 e.symm)).trans (hbl.block g h1)
  have hun : ∀ g, u.ownBlock = some g → v.ownBlock ≠ some g := fun g h1 h2 => by
    have := (hf g h1).1
    have := (h.rlt g h2).2
    omega
  refine ⟨by rw [List.length_append, hdCells_snoc]; exact hown, fun i x ln' hx hl => ?_, fun x hx g hgx => ?_⟩
  · by_cases hil : i < l.length
    · rw [List.getElem?_append_left hil] at hx
      obtain ⟨h1, h2⟩ := h.rd i x ln' hx hl
      refine ⟨(h1.block (fun g hg' he => b7.block g hg') b7.size).block (fun g hg' he => hk g hg' (h.ap x (List.mem_of_getElem? hx) g he).2.2) (by omega), h2⟩
    · have hlt := (List.getElem?_eq_some_iff.1 hx).1
      rw [List.length_append, List.length_singleton] at hlt
      obtain rfl : i = l.length := by omega
      rw [List.getElem?_append_right (Nat.le_refl _), Nat.sub_self] at hx
      simp only [List.getElem?_cons_zero, Option.some.injEq] at hx
      subst hx
      rw [hln] at hl
      obtain rfl := Option.some.inj hl
      exact ⟨hu.block (fun g hg' he => hk g hg' (hun g he)) (by omega), rfl⟩
  · rcases List.mem_append.1 hx with h1 | h1
    · obtain ⟨h2, h3, h4⟩ := h.ap x h1 g hgx
      refine ⟨h2, by omega, fun e => ?_⟩
      rcases hnew g e with h5 | h5
      · exact h4 h5
      · omega
    · rw [List.mem_singleton] at h1
      subst h1
      obtain ⟨h2, h3⟩ := hf g hgx
      refine ⟨by omega, by omega, fun e => ?_⟩
      rcases hnew g e with h5 | h5
      · exact hun g hgx h5
      · omega
/-- Where each lies. -/
theorem HRow.at {k : KD} {B : Nat} {W : World} {v : Value} {l : List (Value × Int)} (h : HRow k B W v l) {i : Nat} (hi : i < l.length) : ∃ g cap x, v = .slice (some ⟨g, 0, none⟩) l.length cap ∧ l[i]? = some x ∧ W.cell? ⟨g, i * 2, none⟩ = some x.1 ∧ W.cell? ⟨g, i * 2 + 1, none⟩ = some (.int .i64 x.2) := by
  rcases h.own.2 with ⟨_, h3⟩ | ⟨g, cap, cur, h2, _⟩
  · omega
  · have hc : ∀ j u, (hdCells l)[j]? = some u → W.cell? ⟨g, j, none⟩ = some u := fun j u hj => by
      have := h.own.cells (g := g) (by rw [h2]; rfl) j u hj
      rw [Addr.add_lit, Nat.zero_add] at this
      exact this
    have hx := List.getElem?_eq_getElem hi
    obtain ⟨h0, h1⟩ := hdCells_at l i _ hx
    exact ⟨g, cap, _, h2, hx, hc _ _ h0, hc _ _ h1⟩
end Go.Proofs.YtajfgmlockjmhaiGreatDoor
namespace Go.Proofs.YtajfgmlockjmhaiGreatDoor
open Go.RowKit

/-- States in a row that can be read. -/
def StL (w : World) (v : Value) (l : List St) : Prop :=
  (l = [] ∧ ∃ ao cap, v = .slice ao 0 cap) ∨ ∃ b off cap, v = .slice (some ⟨b, off, none⟩) l.length cap ∧ l.length ≤ cap ∧ b < w.heap.size ∧ ∀ (i : Nat) s, l[i]? = some s → StC w b (off + i * 8) s
theorem StL.form {w : World} {v : Value} {l : List St} (h : StL w v l) : ∃ ao cap, v = .slice ao l.length cap := by
  rcases h with ⟨rfl, ao, cap, rfl⟩ | ⟨b, off, cap, rfl, _⟩
  · exact ⟨ao, cap, rfl⟩
  · exact ⟨_, cap, rfl⟩
theorem StL.all {w w' : World} {v : Value} {l : List St} (h : StL w v l) (hb : Below w.heap.size w w') : StL w' v l := by
  rcases h with h | ⟨b, off, cap, rfl, hcap, hlt, hc⟩
  · exact Or.inl h
  · exact Or.inr ⟨b, off, cap, rfl, hcap, Nat.lt_of_lt_of_le hlt hb.size, fun i s hi => (hc i s hi).block (hb.block b hlt)⟩
theorem StL.own {w : World} {base : Nat} {v : Value} {l : List St} (h : w.ownsRow base 73 8 v l.length (stCells l)) : StL w v l := by
  have hl := h.lt
  have hcs := @World.ownsRow.cells _ _ _ _ _ _ _ h
  rcases h.2 with ⟨rfl, h0⟩ | ⟨g, cap, cur, rfl, _, _, hcap, _⟩
  · exact Or.inl ⟨List.eq_nil_of_length_eq_zero h0, _, _, rfl⟩
  · have hat : ∀ j u, (stCells l)[j]? = some u → w.cell? ⟨g, j, none⟩ = some u := fun j u hu => by
      have := hcs rfl j u hu
      rwa [Addr.add_lit, Nat.zero_add] at this
    refine Or.inr ⟨g, 0, cap, rfl, hcap, (hl g rfl).2, fun i s hs => ?_⟩
    obtain ⟨q0, q1, q2, q3, q4, q5, q6, q7⟩ := stCells_at l i s hs
    rw [Nat.zero_add]
    exact ⟨hat _ _ q0, hat _ _ q1, hat _ _ q2, hat _ _ q3, hat _ _ q4, hat _ _ q5, hat _ _ q6, hat _ _ q7⟩
end Go.Proofs.YtajfgmlockjmhaiGreatDoor
namespace Go.Proofs.YtajfgmlockjmhaiGreatDoor
open Go.RowKit

/-- Run: the states of a room of a new kernel. -/
def SgtRun (G : World → Prop) : Prop := ∀ (p : PD) (vc vs vw : Value) (n r : Int) (W : World), G W → Pln W vc vs vw p → Calls Tryz.prog 33 #[plV vc p.ticks vs vw, .int .i64 n, .int .i64 r] W fun e w' => ∃ v, e = .returned (.tuple #[v, wErr (runE p n r)]) ∧ StL w' v (if runE p n r = 0 then statesK p n.toNat r.toNat else []) ∧ Below W.heap.size W w'
end Go.Proofs.YtajfgmlockjmhaiGreatDoor
namespace Go.Proofs.YtajfgmlockjmhaiGreatDoor
open Go.RowKit

structure KpB (w : World) (base b : Nat) (t : Int) (vr vw : Value) (rs : List St) (us : List (Value × Int)) (zs : List (List Int × Int)) : Prop where
  c0 : w.cell? ⟨b, 0, none⟩ = some (.int .i64 t)
  c1 : w.cell? ⟨b, 1, none⟩ = some vr
  c2 : w.cell? ⟨b, 2, none⟩ = some vw
  f0 : w.frozen? ⟨b, 0, none⟩ = false
  f1 : w.frozen? ⟨b, 1, none⟩ = false
  f2 : w.frozen? ⟨b, 2, none⟩ = false
  lt : b < base
  le : base ≤ w.heap.size
  rr : w.ownsRow base 73 8 vr rs.length (stCells rs)
  wr : w.ownsRow base 100 2 vw us.length (hdCells us)
  ul : us.length = zs.length
  at_ : ∀ (i : Nat) u z, us[i]? = some u → zs[i]? = some z → u.2 = z.2 ∧ Rd w u.1 z.1 ∧ ∀ g, u.1.ownBlock = some g → base ≤ g ∧ ∃ cur fz, w.heap[g]? = some (.cells cur 3 fz)
theorem KpB.keep {w w' : World} {base b : Nat} {t : Int} {vr vw : Value} {rs : List St} {us : List (Value × Int)} {zs : List (List Int × Int)} (h : KpB w base b t vr vw rs us zs) (hs : w.heap.size ≤ w'.heap.size) (hb : w'.heap[b]? = w.heap[b]?) (hk : ∀ k cur e fz, base ≤ k → w.heap[k]? = some (.cells cur e fz) → w'.heap[k]? = w.heap[k]?) : KpB w' base b t vr vw rs us zs := by
  have hc := fun o => World.cell?_of_block (w := w) (w' := w') (a := ⟨b, o, none⟩) hb
  have hf := fun o => World.frozen?_of_block (w := w) (w' := w') (a := ⟨b, o, none⟩) hb
  have hrow : ∀ {e : TypeId} {size n : Nat} {v : Value} {xs : List Value}, w.ownsRow base e size v n xs → w'.ownsRow base e size v n xs := fun {e size n v xs} hr => own_block hr (fun k hk2 => by
    rcases hr.2 with ⟨h1, _⟩ | ⟨g, cap, cur, h1, h3, h4, _⟩
    · rw [h1] at hk2; cases hk2
    · rw [h1] at hk2
      obtain rfl := Option.some.inj hk2
      exact hk _ _ _ _ h3 h4)
  refine ⟨(hc 0).trans h.c0, (hc 1).trans h.c1, (hc 2).trans h.c2, (hf 0).trans h.f0, (hf 1).trans h.f1, (hf 2).trans h.f2, h.lt, Nat.le_trans h.le hs, hrow h.rr, hrow h.wr, h.ul, fun i u z hu hz => ?_⟩
  obtain ⟨q1, q2, q3⟩ := h.at_ i u z hu hz
  have hu2 : ∀ k, u.1.ownBlock = some k → w'.heap[k]? = w.heap[k]? := fun k e => by
    obtain ⟨h1, cur, fz, h2⟩ := q3 k e
    exact hk k _ _ _ h1 h2
  refine ⟨q1, q2.block (fun k _ e => hu2 k e) hs, fun g hg => ?_⟩
  obtain ⟨h1, cur, fz, h2⟩ := q3 g hg
  exact ⟨h1, cur, fz, (hu2 g hg).trans h2⟩
theorem KpB.below {w w' : World} {base b : Nat} {t : Int} {vr vw : Value} {rs : List St} {us : List (Value × Int)} {zs : List (List Int × Int)} (h : KpB w base b t vr vw rs us zs) (hb : Below w.heap.size w w') : KpB w' base b t vr vw rs us zs :=
  h.keep hb.size (hb.block b (Nat.lt_of_lt_of_le h.lt h.le)) (fun k _ _ _ _ hk => hb.block k (Array.getElem?_eq_some_iff.1 hk).1)
/-- A cell of the box is written. -/
theorem KpB.time {w : World} {base b : Nat} {t : Int} {vr vw : Value} {rs : List St} {us : List (Value × Int)} {zs : List (List Int × Int)} (h : KpB w base b t vr vw rs us zs) (n : Int) : KpB (w.setCell ⟨b, 0, none⟩ (.int .i64 n)) base b n vr vw rs us zs := by
  have hk : ∀ k, base ≤ k → (w.setCell ⟨b, 0, none⟩ (.int .i64 n)).heap[k]? = w.heap[k]? := fun k hk => Below.heap_setCell _ _ _ _ (show k ≠ b by have := h.lt; omega)
  refine ⟨by simp [go_sem, h.c0], by simpa [go_sem] using h.c1, by simpa [go_sem] using h.c2, by simpa using h.f0, by simpa using h.f1, by simpa using h.f2, h.lt, by simpa using h.le, ownsRow_setCell_below h.rr (a := ⟨b, 0, none⟩) h.lt _, ownsRow_setCell_below h.wr (a := ⟨b, 0, none⟩) h.lt _, h.ul, fun i u z hu hz => ?_⟩
  obtain ⟨q1, q2, q3⟩ := h.at_ i u z hu hz
  refine ⟨q1, q2.block (fun k _ e => hk k (q3 k e).1) (by simp), fun g hg => ?_⟩
  obtain ⟨h1, cur, fz, h2⟩ := q3 g hg
  exact ⟨h1, cur, fz, (hk g h1).trans h2⟩
/-- A row has grown by a state. -/
theorem KpB.room {w w1 : World} {base b : Nat} {t : Int} {vr vr' vw : Value} {rs : List St} {us : List (Value × Int)} {zs : List (List Int × Int)} (h : KpB w base b t vr vw rs us zs) (s : St) (hg : w.grownBy w1 vr.ownBlock) (own : w1.ownsRow base 73 8 vr' (rs.length + 1) (stCells rs ++ [.int .i64 s.p, .int .i64 (s.c 0), .int .i64 (s.c 1), .int .i64 (s.c 2), .int .i64 (s.c 3), .int .i64 (s.c 4), .int .i64 (s.c 5), .bool s.f])) :
    KpB (w1.setCell ⟨b, 1, none⟩ vr') base b t vr' vw (rs ++ [s]) us zs ∧ Tk base b w (w1.setCell ⟨b, 1, none⟩ vr') := by
  have htk : Tk base b w w1 := Tk.grown h.rr hg h.le h.lt
  have hne : ∀ k cur fz e, e ≠ 73 → w.heap[k]? = some (.cells cur e fz) → vr.ownBlock ≠ some k := fun k cur fz e he hk e2 => by
    rcases h.rr.2 with ⟨h1, _⟩ | ⟨g, cap, cur2, h1, h3, h4, _⟩
    · rw [h1] at e2; cases e2
    · rw [h1] at e2
      obtain rfl := Option.some.inj e2
      rw [show w.heap[g]? = _ from h4] at hk
      cases hk
      exact he rfl
  have hbv : vr.ownBlock ≠ some b := fun e => by have := (h.rr.lt b e).1; have := h.lt; omega
  have hblt : b < w.heap.size := Nat.lt_of_lt_of_le h.lt h.le
  have hb1 : w1.heap[b]? = w.heap[b]? := hg.block b hblt (fun e => hbv e.symm)
  have hc := fun o => World.cell?_of_block (w := w) (w' := w1) (a := ⟨b, o, none⟩) hb1
  have hf := fun o => World.frozen?_of_block (w := w) (w' := w1) (a := ⟨b, o, none⟩) hb1
  have hkk : ∀ k cur e fz, e ≠ 73 → base ≤ k → w.heap[k]? = some (.cells cur e fz) → (w1.setCell ⟨b, 1, none⟩ vr').heap[k]? = w.heap[k]? := fun k cur e fz he hbk hk =>
    (Below.heap_setCell _ _ _ _ (show k ≠ b by have := h.lt; omega)).trans (hg.block k (Array.getElem?_eq_some_iff.1 hk).1 (fun e2 => hne k cur fz e he hk e2.symm))
  refine ⟨⟨by simp [go_sem, hc, h.c0], by simp [go_sem, hc, h.c1], by simp [go_sem, hc, h.c2], by simp [hf, h.f0], by simp [hf, h.f1], by simp [hf, h.f2], h.lt, by have := hg.size; have := h.le; simp; omega, by rw [stCells_snoc, List.length_append, List.length_singleton]; exact ownsRow_setCell_below own (a := ⟨b, 1, none⟩) h.lt _, ?_, h.ul, fun i u z hu hz => ?_⟩, htk.trans (Tk.set base w1 1 vr')⟩
  · refine own_block h.wr (fun k hk => ?_)
    rcases h.wr.2 with ⟨h1, _⟩ | ⟨g, cap, cur, h1, h3, h4, _⟩
    · rw [h1] at hk; cases hk
    · rw [h1] at hk
      obtain rfl := Option.some.inj hk
      exact hkk _ _ _ _ (by decide) h3 h4
  · obtain ⟨q1, q2, q3⟩ := h.at_ i u z hu hz
    refine ⟨q1, q2.block (fun k _ e => ?_) (by have := hg.size; simpa using this), fun g hg2 => ?_⟩
    · obtain ⟨h1, cur, fz, h2⟩ := q3 k e
      exact hkk _ _ _ _ (by decide) h1 h2
    · obtain ⟨h1, cur, fz, h2⟩ := q3 g hg2
      exact ⟨h1, cur, fz, (hkk _ _ _ _ (by decide) h1 h2).trans h2⟩
/-- A row has grown by what a wire holds. -/
theorem KpB.wire {w w1 : World} {base b : Nat} {t : Int} {vr vw vw' : Value} {rs : List St} {us : List (Value × Int)} {zs : List (List Int × Int)} (h : KpB w base b t vr vw rs us zs) (u : Value × Int) (z : List Int × Int) (hz : u.2 = z.2) (hr : Rd w u.1 z.1) (hb : ∀ g, u.1.ownBlock = some g → base ≤ g ∧ ∃ cur fz, w.heap[g]? = some (.cells cur 3 fz)) (hg : w.grownBy w1 vw.ownBlock) (own : w1.ownsRow base 100 2 vw' (us.length + 1) (hdCells us ++ [u.1, .int .i64 u.2])) :
    KpB (w1.setCell ⟨b, 2, none⟩ vw') base b t vr vw' rs (us ++ [u]) (zs ++ [z]) ∧ Tk base b w (w1.setCell ⟨b, 2, none⟩ vw') := by
  have htk : Tk base b w w1 := Tk.grown h.wr hg h.le h.lt
  have hne : ∀ k cur fz e, e ≠ 100 → w.heap[k]? = some (.cells cur e fz) → vw.ownBlock ≠ some k := fun k cur fz e he hk e2 => by
    rcases h.wr.2 with ⟨h1, _⟩ | ⟨g, cap, cur2, h1, h3, h4, _⟩
    · rw [h1] at e2; cases e2
    · rw [h1] at e2
      obtain rfl := Option.some.inj e2
      rw [show w.heap[g]? = _ from h4] at hk
      cases hk
      exact he rfl
  have hbv : vw.ownBlock ≠ some b := fun e => by have := (h.wr.lt b e).1; have := h.lt; omega
  have hblt : b < w.heap.size := Nat.lt_of_lt_of_le h.lt h.le
  have hb1 : w1.heap[b]? = w.heap[b]? := hg.block b hblt (fun e => hbv e.symm)
  have hc := fun o => World.cell?_of_block (w := w) (w' := w1) (a := ⟨b, o, none⟩) hb1
  have hf := fun o => World.frozen?_of_block (w := w) (w' := w1) (a := ⟨b, o, none⟩) hb1
  have hkk : ∀ k cur e fz, e ≠ 100 → base ≤ k → w.heap[k]? = some (.cells cur e fz) → (w1.setCell ⟨b, 2, none⟩ vw').heap[k]? = w.heap[k]? := fun k cur e fz he hbk hk =>
    (Below.heap_setCell _ _ _ _ (show k ≠ b by have := h.lt; omega)).trans (hg.block k (Array.getElem?_eq_some_iff.1 hk).1 (fun e2 => hne k cur fz e he hk e2.symm))
  have hsz : w.heap.size ≤ (w1.setCell ⟨b, 2, none⟩ vw').heap.size := by have := hg.size; simpa using this
  have old : ∀ (u' : Value × Int) (z' : List Int × Int), u'.2 = z'.2 ∧ Rd w u'.1 z'.1 ∧ (∀ g, u'.1.ownBlock = some g → base ≤ g ∧ ∃ cur fz, w.heap[g]? = some (.cells cur 3 fz)) → u'.2 = z'.2 ∧ Rd (w1.setCell ⟨b, 2, none⟩ vw') u'.1 z'.1 ∧ ∀ g, u'.1.ownBlock = some g → base ≤ g ∧ ∃ cur fz, (w1.setCell ⟨b, 2, none⟩ vw').heap[g]? = some (.cells cur 3 fz) := fun u' z' ⟨q1, q2, q3⟩ => by
    refine ⟨q1, q2.block (fun k _ e => ?_) hsz, fun g hg2 => ?_⟩
    · obtain ⟨h1, cur, fz, h2⟩ := q3 k e
      exact hkk _ _ _ _ (by decide) h1 h2
    · obtain ⟨h1, cur, fz, h2⟩ := q3 g hg2
      exact ⟨h1, cur, fz, (hkk _ _ _ _ (by decide) h1 h2).trans h2⟩
  refine ⟨⟨by simp [go_sem, hc, h.c0], by simp [go_sem, hc, h.c1], by simp [go_sem, hc, h.c2], by simp [hf, h.f0], by simp [hf, h.f1], by simp [hf, h.f2], h.lt, Nat.le_trans h.le hsz, ?_, by rw [hdCells_snoc, List.length_append, List.length_singleton]; exact ownsRow_setCell_below own (a := ⟨b, 2, none⟩) h.lt _, by simp [h.ul], fun i u' z' hu hz' => ?_⟩, htk.trans (Tk.set base w1 2 vw')⟩
  · refine own_block h.rr (fun k hk => ?_)
    rcases h.rr.2 with ⟨h1, _⟩ | ⟨g, cap, cur, h1, h3, h4, _⟩
    · rw [h1] at hk; cases hk
    · rw [h1] at hk
      obtain rfl := Option.some.inj hk
      exact hkk _ _ _ _ (by decide) h3 h4
  · by_cases hi : i < us.length
    · rw [List.getElem?_append_left hi] at hu
      rw [List.getElem?_append_left (by rw [← h.ul]; exact hi)] at hz'
      exact old u' z' (h.at_ i u' z' hu hz')
    · rw [List.getElem?_append_right (by omega)] at hu
      rw [List.getElem?_append_right (by have := h.ul; omega)] at hz'
      have hi2 : i - us.length = 0 := by have := (List.getElem?_eq_some_iff.1 hu).1; simp at this; omega
      rw [hi2] at hu
      rw [show i - zs.length = 0 by have := h.ul; omega] at hz'
      simp at hu hz'
      subst hu
      subst hz'
      exact old u z ⟨hz, hr, hb⟩
end Go.Proofs.YtajfgmlockjmhaiGreatDoor
namespace Go.Proofs.YtajfgmlockjmhaiGreatDoor
open Go.RowKit

set_option maxRecDepth 100000 in
set_option maxHeartbeats 2000000 in
theorem wcon_idx (v : Value) (xs : List Int) (w : World) (hx : xs.length ≤ 2000000000000) (h : Rd w v xs) :
    Calls Tryz.prog 160 #[v, .func (.func 153) #[] #[]] w fun e w' => (∃ r : Int, e = .returned (.int .i64 r) ∧ decide (0 ≤ r) = xs.any woutB) ∧ w' = w := by
  rcases h with ⟨rfl, ao, cap, rfl⟩ | ⟨b, off, cap, rfl, _, _, h2, hc⟩
  · go_enter Tryz.func160, Tryz.ntmps160
    go_wp2
    refine wp_loop_rounds 1 ?_
    rw [rounds_succ]
    go_wp2
    go_ret
    exact ⟨⟨_, rfl, rfl⟩, rfl⟩
  have HC : Hid (∀ (i : Nat) y, xs[i]? = some y → w.cell? ⟨b, off + i, none⟩ = some (.int .i64 y)) := hc
  clear hc
  go_enter Tryz.func160, Tryz.ntmps160
  go_wp2
  go_loopw [8] (fun i wr => ∃ k : Nat, k ≤ xs.length ∧ i = .int .i64 k ∧ (∀ (j : Nat) y, j < k → xs[j]? = some y → woutB y = false) ∧ wr = w) (fun i _ => xs.length - (intOf i).toNat)
  case atStart => exact ⟨0, Nat.zero_le _, rfl, fun j y hj => by omega, rfl⟩
  case round =>
    obtain ⟨k, hk, rfl, hall, hwr⟩ := hrel
    subst wr
    have Hall : Hid (∀ (j : Nat) y, j < k → xs[j]? = some y → woutB y = false) := hall
    clear hall
    by_cases hkl : k < xs.length
    · have hki : (k : Int) < (xs.length : Int) := by omega
      obtain ⟨y, hy⟩ : ∃ y, xs[k]? = some y := ⟨xs[k], List.getElem?_eq_getElem hkl⟩
      have d0 := HC.out k y hy
      have HY : Hid (xs[k]? = some y) := hy
      clear hy
      have ho := wout_any y w
      cases hxy : woutB y with
      | false =>
        rw [hxy] at ho
        go_wp2_with (go_at_call 153; refine ho.mono ?_; rintro e w1 ⟨rfl, hw1⟩; subst w1; clear ho)
        go_roundw
        case rel =>
          refine ⟨k + 1, by omega, by go_num, fun j z hj hz => ?_, by trivial⟩
          by_cases hjk : j < k
          · exact Hall.out j z hjk hz
          · obtain rfl : j = k := by omega
            rw [HY.out] at hz
            obtain rfl := Option.some.inj hz
            exact hxy
        case measure => simp [intOf]; omega
      | true =>
        rw [hxy] at ho
        have HF : Hid (xs.any woutB = true) := by
          show _ = _
          rw [List.any_eq_true]
          exact ⟨y, List.mem_of_getElem? HY.out, hxy⟩
        go_wp2_with (go_at_call 153; refine ho.mono ?_; rintro e w1 ⟨rfl, hw1⟩; subst w1; clear ho)
        go_ret
        exact ⟨⟨_, rfl, by rw [HF.out]; simp⟩, rfl⟩
    · have hki : decide ((k : Int) < (xs.length : Int)) = false := decide_eq_false (by omega)
      have hki' : decide (k < xs.length) = false := decide_eq_false (by omega)
      have HF : Hid (xs.any woutB = false) := by
        show _ = _
        rw [List.any_eq_false]
        intro y hy
        obtain ⟨j, hj⟩ := List.mem_iff_getElem?.1 hy
        have := Hall.out j y (by have := (List.getElem?_eq_some_iff.1 hj).1; omega) hj
        rw [this]
        decide
      go_wp2
      go_ret
      exact ⟨⟨_, rfl, by rw [HF.out]; decide⟩, rfl⟩
set_option maxRecDepth 100000 in
set_option maxHeartbeats 2000000 in
theorem wcon_any (v : Value) (xs : List Int) (w : World) (hx : xs.length ≤ 2000000000000) (h : Rd w v xs) :
    Calls Tryz.prog 143 #[v, .func (.func 153) #[] #[]] w fun e w' => e = .returned (.bool (xs.any woutB)) ∧ w' = w := by
  have h := wcon_idx v xs w hx h
  obtain ⟨r, hr⟩ : ∃ r, r = xs.any woutB := ⟨_, rfl⟩
  rw [← hr] at h ⊢
  clear hr
  go_enter Tryz.func143, Tryz.ntmps143
  go_wp2_with (go_at_call 160; refine h.mono ?_; rintro e w1 ⟨⟨q, rfl, hq⟩, hw1⟩; subst w1; clear h)
  go_ret
  exact ⟨rfl, rfl⟩
end Go.Proofs.YtajfgmlockjmhaiGreatDoor
namespace Go.Proofs.YtajfgmlockjmhaiGreatDoor
open Go.RowKit

/-- The first of a room's states. -/
def stsK (p : PD) (t r : Nat) : List St := (List.range t).map fun i => (kT p i).rooms.getD r stNew
theorem stsK_len (p : PD) (t r : Nat) : (stsK p t r).length = t := by simp [stsK]
theorem stsK_succ (p : PD) (t r : Nat) : stsK p (t + 1) r = stsK p t r ++ [(kT p t).rooms.getD r stNew] := by
  unfold stsK
  rw [List.range_succ, List.map_append]
  rfl
theorem stsK_all (p : PD) (n r : Nat) : stsK p (n + 1) r = statesK p n r := rfl
/-- A row of the caller's own has grown. -/
theorem KTouch.rowG {w w2 wa : World} {row : Option Nat} (hb : Below w.heap.size w w2) (hg : w2.grownBy wa row) : KTouch row.toList w wa :=
  ⟨hg.os.trans hb.os, hg.tape.trans hb.tape, hg.output.trans hb.output, Nat.le_trans hb.size hg.size, fun k hk hm => by
    have := hb.size
    exact (hg.block k (by omega) (fun e => hm (by rw [← e]; simp))).trans (hb.block k hk)⟩
/-- A kernel, and a row of states beside it. -/
structure SRn {G : World → Prop} (C : KerC G) (w0 wr : World) (p : PD) (vc vs vw : Value) (kb B r t : Nat) (v : Value) (F : List Nat) : Prop where
  K : C.K w0 wr p vc vs vw (kT p t) kb F
  own : wr.ownsRow B 73 8 v t (stCells (stsK p t r))
  ap : ∀ g, v.ownBlock = some g → g ∉ F
  B1 : w0.heap.size ≤ B
  B2 : B ≤ wr.heap.size
/-- One more state, and a tick. -/
theorem SRn.more {G : World → Prop} {C : KerC G} {w0 wr w3 w8 : World} {p : PD} {vc vs vw : Value} {kb B r t : Nat} {v v' : Value} {F : List Nat} {s : St} (h : SRn C w0 wr p vc vs vw kb B r t v F) (hs : (kT p t).rooms.getD r stNew = s) (b3 : Below wr.heap.size wr w3) (hg : w3.grownBy w8 v.ownBlock)
    (own8 : w8.ownsRow B 73 8 v' (t + 1) (stCells (stsK p t r) ++ [.int .i64 s.p, .int .i64 (s.c 0), .int .i64 (s.c 1), .int .i64 (s.c 2), .int .i64 (s.c 3), .int .i64 (s.c 4), .int .i64 (s.c 5), .bool s.f])) (hnew : ∀ g, v'.ownBlock = some g → v.ownBlock = some g ∨ w3.heap.size ≤ g) (hG : G w0) (hp : plchk p = 0) (ht : t < 1000000) :
    Calls Tryz.prog 12 #[.pointer (some ⟨kb, 0, none⟩)] w8 fun e w' => ∃ a b c d, e = .returned (.agg #[.int .i64 a, .int .i64 b, .int .i64 c, .int .i64 d]) ∧ ∃ F', SRn C w0 w' p vc vs vw kb B r (t + 1) v' F' := by
  have tk := KTouch.rowG b3 hg
  have hK8 := C.frame h.K tk (fun m hm => by
    have hm' : v.ownBlock = some m := by simpa using hm
    exact ⟨h.ap m hm', Nat.le_trans h.B1 (h.own.lt m hm').1⟩)
  refine (C.tick hG hK8 hp (kT_ok hp t) (by rw [kT_time]; omega)).mono ?_
  rintro e w' ⟨rfl, F', hK', tk', hF'⟩
  have hs8 := tk.size
  have hs3 := b3.size
  have hg8 := hg.size
  have hap8 : ∀ g, v'.ownBlock = some g → g ∉ F := fun g hg' hm => by
    rcases hnew g hg' with h1 | h1
    · exact h.ap g h1 hm
    · have := (C.ge h.K g hm).2
      omega
  refine ⟨_, _, _, _, rfl, F', hK', ?_, fun g hg' hm => ?_, h.B1, Nat.le_trans h.B2 (Nat.le_trans hs8 tk'.size)⟩
  · rw [stsK_succ, stCells_snoc, hs]
    exact own_block own8 (fun g hg' => tk'.block g (own8.lt g hg').2 (hap8 g hg'))
  · rcases hF' g hm with h1 | h1
    · exact hap8 g hg' h1
    · have := (own8.lt g hg').2
      omega
set_option maxRecDepth 100000 in
set_option maxHeartbeats 8000000 in
theorem srun_wrong {G : World → Prop} (C : KerC G) (p : PD) (vc vs vw : Value) (n r : Int) (W : World) (hG : G W) (hP : Pln W vc vs vw p) (hp : plchk p ≠ 0) :
    Calls Tryz.prog 33 #[plV vc p.ticks vs vw, .int .i64 n, .int .i64 r] W fun e w' => e = .returned (.tuple #[.slice none 0 0, wErr (plchk p)]) ∧ Below W.heap.size W w' := by
  obtain ⟨ca, cc, rfl⟩ := hP.code.form
  obtain ⟨sa, sc, rfl⟩ := hP.spans.form
  obtain ⟨wa, wc', rfl⟩ := hP.wires.form
  have hx0 := Bx.first W (.slice ca p.code.length cc) p.ticks (.slice sa p.spans.length sc) (.slice wa p.wires.length wc')
  have q1 := C.no p _ _ _ _ (C.all _ _ hG hx0.below) (hP.all hx0.below) hp
  rw [wErr_not hp] at q1 ⊢
  unfold plV at q1 ⊢
  have k0 := hx0.c0
  have k1 := hx0.c1
  have k2 := hx0.c2
  have k3 := hx0.c3
  clear hP hG
  generalize plchk p = z at q1 hp ⊢
  go_enter Tryz.func33, Tryz.ntmps33
  go_wp2_with (go_at_call 9; refine q1.mono ?_; rintro e w1 ⟨x, rfl, b1⟩)
  go_ret2
  exact ⟨rfl, (hx0.step b1).below⟩
set_option maxRecDepth 100000 in
set_option maxHeartbeats 8000000 in
theorem srun_n {G : World → Prop} (C : KerC G) (p : PD) (vc vs vw : Value) (n r : Int) (W : World) (hG : G W) (hP : Pln W vc vs vw p) (hp : plchk p = 0) (hn : n < 0 ∨ 2000 < n) :
    Calls Tryz.prog 33 #[plV vc p.ticks vs vw, .int .i64 n, .int .i64 r] W fun e w' => e = .returned (.tuple #[.slice none 0 0, wErr 1]) ∧ Below W.heap.size W w' := by
  obtain ⟨ca, cc, rfl⟩ := hP.code.form
  obtain ⟨sa, sc, rfl⟩ := hP.spans.form
  obtain ⟨wa, wc', rfl⟩ := hP.wires.form
  have hx0 := Bx.first W (.slice ca p.code.length cc) p.ticks (.slice sa p.spans.length sc) (.slice wa p.wires.length wc')
  have q1 : Calls Tryz.prog 9 #[.agg #[.slice ca p.code.length cc, .int .i64 p.ticks, .slice sa p.spans.length sc, .slice wa p.wires.length wc']] (W.alloc (.cells #[.slice ca p.code.length cc, .int .i64 p.ticks, .slice sa p.spans.length sc, .slice wa p.wires.length wc'] 26)) fun e w' => ∃ kb, e = .returned (.tuple #[.pointer (some ⟨kb, 0, none⟩), .nilIface]) ∧ Below W.heap.size W w' := by
    refine (C.new p _ _ _ _ (C.all _ _ hG hx0.below) (hP.all hx0.below) hp).mono ?_
    rintro e w' ⟨kb, F, rfl, hK⟩
    exact ⟨kb, rfl, hx0.below.trans ((C.since hK).mono (by simp))⟩
  unfold plV
  have k0 := hx0.c0
  have k1 := hx0.c1
  have k2 := hx0.c2
  have k3 := hx0.c3
  clear hP hG hp
  have hcase : decide (n < 0) = true ∨ (decide (n < 0) = false ∧ decide (2000 < n) = true) := by
    by_cases h : n < 0
    · exact Or.inl (decide_eq_true h)
    · exact Or.inr ⟨decide_eq_false h, decide_eq_true (hn.resolve_left h)⟩
  clear hn
  rcases hcase with h1 | ⟨h1, h2⟩
  · go_enter Tryz.func33, Tryz.ntmps33
    go_wp2_with (go_at_call 9; refine q1.mono ?_; rintro e w1 ⟨kb, rfl, b1⟩)
    go_ret2
    exact ⟨rfl, b1⟩
  · go_enter Tryz.func33, Tryz.ntmps33
    go_wp2_with (go_at_call 9; refine q1.mono ?_; rintro e w1 ⟨kb, rfl, b1⟩)
    go_ret2
    exact ⟨rfl, b1⟩
set_option maxRecDepth 100000 in
set_option maxHeartbeats 8000000 in
theorem srun_room {G : World → Prop} (C : KerC G) (p : PD) (vc vs vw : Value) (n : Nat) (r : Int) (W : World) (hG : G W) (hP : Pln W vc vs vw p) (hp : plchk p = 0) (hn : n ≤ 2000) (hr : r < 0 ∨ (p.code.length : Int) ≤ r) :
    Calls Tryz.prog 33 #[plV vc p.ticks vs vw, .int .i64 n, .int .i64 r] W fun e w' => e = .returned (.tuple #[.slice none 0 0, wErr 1]) ∧ Below W.heap.size W w' := by
  obtain ⟨ca, cc, rfl⟩ := hP.code.form
  obtain ⟨sa, sc, rfl⟩ := hP.spans.form
  obtain ⟨wa, wc', rfl⟩ := hP.wires.form
  have hx0 := Bx.first W (.slice ca p.code.length cc) p.ticks (.slice sa p.spans.length sc) (.slice wa p.wires.length wc')
  have q1 : Calls Tryz.prog 9 #[.agg #[.slice ca p.code.length cc, .int .i64 p.ticks, .slice sa p.spans.length sc, .slice wa p.wires.length wc']] (W.alloc (.cells #[.slice ca p.code.length cc, .int .i64 p.ticks, .slice sa p.spans.length sc, .slice wa p.wires.length wc'] 26)) fun e w' => ∃ kb, e = .returned (.tuple #[.pointer (some ⟨kb, 0, none⟩), .nilIface]) ∧ Below W.heap.size W w' ∧ Calls Tryz.prog 32 #[.pointer (some ⟨kb, 0, none⟩), .int .i64 r] w' fun e w2 => e = .returned (.tuple #[stA stNew, wErr 1]) ∧ Below w'.heap.size w' w2 := by
    refine (C.new p _ _ _ _ (C.all _ _ hG hx0.below) (hP.all hx0.below) hp).mono ?_
    rintro e w' ⟨kb, F, rfl, hK⟩
    have hno : noRoom (newK p) r = true := by
      have hl : (newK p).rooms.length = p.code.length := by simp [newK]
      unfold noRoom
      rw [hl, Bool.or_eq_true]
      rcases hr with h | h
      · exact Or.inl (decide_eq_true h)
      · exact Or.inr (decide_eq_true h)
    have hS := C.state r hK (kT_ok hp 0) hp
    have hrk : roomK (newK p) r = stNew := by
      unfold roomK
      rw [if_pos hno]
    rw [hrk, hno] at hS
    exact ⟨kb, rfl, hx0.below.trans ((C.since hK).mono (by simp)), hS⟩
  unfold plV
  have k0 := hx0.c0
  have k1 := hx0.c1
  have k2 := hx0.c2
  have k3 := hx0.c3
  clear hP hG hp hr
  have hn0 : decide ((n : Int) < 0) = false := decide_eq_false (by omega)
  have hn1 : decide (2000 < (n : Int)) = false := decide_eq_false (by omega)
  have hn3 : (0 : Int) < (n : Int) + 1 := by omega
  unfold stA stNew wErr at q1
  go_enter Tryz.func33, Tryz.ntmps33
  go_wp2_with (go_at_call 9; refine q1.mono ?_; rintro e w1 ⟨kb, rfl, b1, q2⟩)
  refine wp_loop_rounds 1 ?_
  rw [rounds_succ]
  go_wp2_with (go_at_call 32; refine q2.mono ?_; rintro e w2 ⟨rfl, b2⟩)
  go_ret2
  refine ⟨rfl, ?_⟩
  have hb := b1.trans (b2.mono b1.size)
  have hs := hb.size
  repeat' first | exact hb | refine Below.drew ?_ | refine Below.alloc ?_ (by first | omega | (simp; omega)) _ | refine Below.setCell ?_ (by first | omega | (simp; omega)) _
set_option maxRecDepth 100000 in
set_option maxHeartbeats 8000000 in
theorem srun_ok {G : World → Prop} (C : KerC G) (p : PD) (vc vs vw : Value) (n r : Nat) (W : World) (hG : G W) (hP : Pln W vc vs vw p) (hp : plchk p = 0) (hn : n ≤ 2000) (hr : r < p.code.length) :
    Calls Tryz.prog 33 #[plV vc p.ticks vs vw, .int .i64 n, .int .i64 r] W fun e w' => ∃ v, e = .returned (.tuple #[v, .nilIface]) ∧ StL w' v (statesK p n r) ∧ Below W.heap.size W w' := by
  obtain ⟨jj, hj, hy0, hy1, hy2⟩ := info_parts infoSt
  obtain ⟨ca, cc, rfl⟩ := hP.code.form
  obtain ⟨sa, sc, rfl⟩ := hP.spans.form
  obtain ⟨wa, wc', rfl⟩ := hP.wires.form
  have hx0 := Bx.first W (.slice ca p.code.length cc) p.ticks (.slice sa p.spans.length sc) (.slice wa p.wires.length wc')
  have HG : Hid (G (W.alloc (.cells #[.slice ca p.code.length cc, .int .i64 p.ticks, .slice sa p.spans.length sc, .slice wa p.wires.length wc'] 26))) := C.all _ _ hG hx0.below
  have hA := hx0.below
  have HN : Hid (Calls Tryz.prog 9 #[.agg #[.slice ca p.code.length cc, .int .i64 p.ticks, .slice sa p.spans.length sc, .slice wa p.wires.length wc']] (W.alloc (.cells #[.slice ca p.code.length cc, .int .i64 p.ticks, .slice sa p.spans.length sc, .slice wa p.wires.length wc'] 26)) fun e w' => ∃ kb F, e = .returned (.tuple #[.pointer (some ⟨kb, 0, none⟩), .nilIface]) ∧ C.K (W.alloc (.cells #[.slice ca p.code.length cc, .int .i64 p.ticks, .slice sa p.spans.length sc, .slice wa p.wires.length wc'] 26)) w' p (.slice ca p.code.length cc) (.slice sa p.spans.length sc) (.slice wa p.wires.length wc') (newK p) kb F) := C.new p _ _ _ _ HG.out (hP.all hx0.below) hp
  unfold plV
  have k0 := hx0.c0
  have k1 := hx0.c1
  have k2 := hx0.c2
  have k3 := hx0.c3
  have HGs : Hid (∀ t, noRoom (kT p t) r = false ∧ roomK (kT p t) r = (kT p t).rooms.getD r stNew) := fun t => by
    have hl : (kT p t).rooms.length = p.code.length := (kT_ok hp t).rl
    have hno : noRoom (kT p t) r = false := by
      unfold noRoom
      rw [hl, Bool.or_eq_false_iff]
      exact ⟨decide_eq_false (by omega), decide_eq_false (by omega)⟩
    refine ⟨hno, ?_⟩
    unfold roomK
    rw [if_neg (by rw [hno]; decide), Int.toNat_natCast]
  clear hP hG
  have hn0 : decide ((n : Int) < 0) = false := decide_eq_false (by omega)
  have hn1 : decide (2000 < (n : Int)) = false := decide_eq_false (by omega)
  go_enter Tryz.func33, Tryz.ntmps33
  go_wp2_with (go_at_call 9; refine HN.out.mono ?_; rintro e w1 ⟨kb, F, rfl, hK⟩)
  clear HN
  generalize W.alloc (.cells #[.slice ca p.code.length cc, .int .i64 p.ticks, .slice sa p.spans.length sc, .slice wa p.wires.length wc'] 26) = W0 at *
  go_loopw [10, 30] (fun v i wr => ∃ (t : Nat) (F : List Nat), t ≤ n + 1 ∧ i = .int .i64 t ∧ SRn C W0 wr p (.slice ca p.code.length cc) (.slice sa p.spans.length sc) (.slice wa p.wires.length wc') kb w1.heap.size r t v F) (fun _ i _ => n + 1 - (intOf i).toNat)
  case atStart => exact ⟨0, F, Nat.zero_le _, rfl, hK, World.ownsRow_nil _ _ _ _, fun g hg => (by cases hg), (C.since hK).size, Nat.le_refl _⟩
  case round =>
    clear hK
    obtain ⟨t, F', htn, rfl, hst⟩ := hrel
    obtain ⟨vo, vn, vk, rfl⟩ := own_form hst.own
    have hbw := C.since hst.K
    by_cases htl : t < n + 1
    · have hti : (t : Int) < (n : Int) + 1 := by omega
      obtain ⟨hno, hrk⟩ := HGs.out t
      obtain ⟨s, hs⟩ : ∃ s, (kT p t).rooms.getD r stNew = s := ⟨_, rfl⟩
      have HS : Hid ((kT p t).rooms.getD r stNew = s) := hs
      have hS := C.state r hst.K (kT_ok hp t) hp
      rw [hno, hrk, hs] at hS
      have HT : Hid (Calls Tryz.prog 32 #[.pointer (some ⟨kb, 0, none⟩), .int .i64 r] wr fun e w2 => e = .returned (.tuple #[.agg #[.int .i64 s.p, .int .i64 (s.c 0), .int .i64 (s.c 1), .int .i64 (s.c 2), .int .i64 (s.c 3), .int .i64 (s.c 4), .int .i64 (s.c 5), .bool s.f], .nilIface]) ∧ Below wr.heap.size wr w2) := hS
      have HR : Hid (SRn C W0 wr p (.slice ca p.code.length cc) (.slice sa p.spans.length sc) (.slice wa p.wires.length wc') kb w1.heap.size r t (.slice vo vn vk) F') := hst
      have hown0 := hst.own
      have hB2 := hst.B2
      clear hS hs hst hno hrk
      go_upto_region 9 with fail
      go_cut [11, 12, 30] from 30 to 47 (fun s11 s12 s30 wx => s12 = .nilIface ∧ s30 = .int .i64 t ∧ ∃ g, s11 = .pointer (some ⟨g, 0, none⟩) ∧ StC wx g 0 s ∧ Below wr.heap.size wr wx)
      case first =>
        go_wp2_with (go_at_call 32; refine HT.out.mono ?_; rintro e w2 ⟨rfl, b2⟩)
        go_meet
        case rel =>
          refine ⟨rfl, rfl, w2.heap.size, rfl, ?_, ?_⟩
          · constructor <;> simp [go_sem]
          · have hs2 := b2.size
            repeat' first | exact b2 | refine Below.drew ?_ | refine Below.alloc ?_ (by first | omega | (simp; omega)) _ | refine Below.setCell ?_ (by first | omega | (simp; omega)) _
      case rest =>
        obtain ⟨rfl, rfl, g, rfl, hsc, hbc⟩ := hcut
        obtain ⟨q0, q1, q2, q3, q4, q5, q6, q7⟩ := hsc
        have own3 := own_block hown0 (fun k hk => hbc.block k (hown0.lt k hk).2)
        have hsz := hbc.size
        clear HT hown0
        go_wp2_with (at_builtin; refine wpList_append_at _ rfl _ _ 63 rfl w1.heap.size 73 jj _ 8 64 Tryz.underlying63 hj hy0 hy1 hy2 rfl (by decide) _ _ _ rfl (own3.alloc _) ⟨wc.heap.size, 0, none⟩ 1 1 [.int .i64 s.p, .int .i64 (s.c 0), .int .i64 (s.c 1), .int .i64 (s.c 2), .int .i64 (s.c 3), .int .i64 (s.c 4), .int .i64 (s.c 5), .bool s.f] rfl rfl ?c1A ?c2A ?c3A ?c4A ?c5A ?_)
        try (case c1A => exact st_new rfl s _)
        case c2A => first | exact st_one s | exact ⟨rfl, rfl, rfl, rfl, rfl, rfl, rfl, rfl⟩
        case c3A => unfold maxLen; omega
        case c4A => omega
        case c5A => first | omega | (simp; omega)
        intro v1 w8 own8 hg8 hnw8
        have hb3 : Below wr.heap.size wr (wc.alloc (.cells #[.int .i64 s.p, .int .i64 (s.c 0), .int .i64 (s.c 1), .int .i64 (s.c 2), .int .i64 (s.c 3), .int .i64 (s.c 4), .int .i64 (s.c 5), .bool s.f] 73)) := hbc.alloc hbc.size _
        have HQ : Hid (Calls Tryz.prog 12 #[.pointer (some ⟨kb, 0, none⟩)] w8 fun e w' => ∃ a b c d, e = .returned (.agg #[.int .i64 a, .int .i64 b, .int .i64 c, .int .i64 d]) ∧ ∃ F', SRn C W0 w' p (.slice ca p.code.length cc) (.slice sa p.spans.length sc) (.slice wa p.wires.length wc') kb w1.heap.size r (t + 1) v1 F') := HR.out.more HS.out hb3 hg8 own8 (fun g hg => by have := hnw8 g hg; simpa using this) HG.out hp (by omega)
        obtain ⟨g8, cap8, rfl⟩ := own_succ own8
        clear own8 hg8 hnw8 own3 q0 q1 q2 q3 q4 q5 q6 q7 hb3
        go_wp2_with (go_at_call 12; refine HQ.out.mono ?_; rintro e w9 ⟨ea, eb, ec, ed, rfl, F9, hst9⟩)
        go_roundw
        case rel => exact ⟨t + 1, F9, by omega, by go_num, hst9⟩
        case measure => simp [intOf]; omega
    · obtain rfl : t = n + 1 := by omega
      have hti : decide (((n + 1 : Nat) : Int) < (n : Int) + 1) = false := decide_eq_false (by omega)
      have HS : Hid (StL wr (.slice vo vn vk) (statesK p n r)) := StL.own (by rw [statesK_len]; exact hst.own)
      have HB' : Hid (Below W.heap.size W wr) := hA.trans (hbw.mono hA.size)
      clear hst
      go_wp2
      go_ret2
      exact ⟨_, rfl, HS.out, HB'.out⟩
/-- Run does what the laws of sight ask of it. -/
theorem sgt_run {G : World → Prop} (C : KerC G) : SgtRun G := fun p vc vs vw n r W hG hP => by
  by_cases hp : plchk p = 0
  · by_cases hn : n < 0 ∨ 2000 < n
    · have he : runE p n r = 1 := by
        unfold runE
        rw [if_pos hp, if_pos (by omega)]
      rw [he]
      refine (srun_n C p vc vs vw n r W hG hP hp hn).mono ?_
      rintro e w' ⟨rfl, hb⟩
      exact ⟨_, rfl, Or.inl ⟨rfl, _, _, rfl⟩, hb⟩
    · obtain ⟨n, rfl⟩ : ∃ m : Nat, n = m := ⟨n.toNat, by omega⟩
      by_cases hr : r < 0 ∨ (p.code.length : Int) ≤ r
      · have he : runE p n r = 1 := by
          unfold runE
          rw [if_pos hp, if_pos (by omega)]
        rw [he]
        refine (srun_room C p vc vs vw n r W hG hP hp (by omega) hr).mono ?_
        rintro e w' ⟨rfl, hb⟩
        exact ⟨_, rfl, Or.inl ⟨rfl, _, _, rfl⟩, hb⟩
      · obtain ⟨r, rfl⟩ : ∃ m : Nat, r = m := ⟨r.toNat, by omega⟩
        have he : runE p n r = 0 := by
          unfold runE
          rw [if_pos hp, if_neg (by omega)]
        rw [he, if_pos rfl, Int.toNat_natCast, Int.toNat_natCast]
        exact srun_ok C p vc vs vw n r W hG hP hp (by omega) (by omega)
  · have he : runE p n r = plchk p := by
      unfold runE
      rw [if_neg hp]
    rw [he, if_neg hp]
    refine (srun_wrong C p vc vs vw n r W hG hP hp).mono ?_
    rintro e w' ⟨rfl, hb⟩
    exact ⟨_, rfl, Or.inl ⟨rfl, _, _, rfl⟩, hb⟩
end Go.Proofs.YtajfgmlockjmhaiGreatDoor
namespace Go.Proofs.YtajfgmlockjmhaiGreatDoor
open Go.RowKit

/-- Its plan. -/
def setP : PD := ⟨[[(1, 2, 7)]], 1, [(0, 1, 0)], []⟩
theorem setP_ok : plchk setP = 0 := by decide +kernel
theorem setP_c : (roomK (tickK setP setP.spans (newK setP)).1 0).c 2 = 7 := by decide +kernel
theorem setP_r : noRoom (tickK setP setP.spans (newK setP)).1 0 = false := by decide +kernel
/-- It lies in the world. -/
theorem setP_pln (W : World) (n : Nat) (hn : n = W.heap.size) : Pln (((W.alloc (.cells #[.int .i64 1, .int .i64 2, .int .i64 7] 28)).alloc (.cells #[.slice (some ⟨n, 0, none⟩) 1 1] 29)).alloc (.cells #[.int .i64 0, .int .i64 1, .int .i64 0] 82)) (.slice (some ⟨n + 1, 0, none⟩) 1 1) (.slice (some ⟨n + 2, 0, none⟩) 1 1) (.slice none 0 0) setP := by
  subst hn
  refine ⟨Or.inr ⟨_, 0, 1, rfl, Nat.le_refl _, by simp, fun i c hi => ?_⟩, Or.inr ⟨_, 0, 1, rfl, Nat.le_refl _, by simp, fun i s hi => ?_⟩, Or.inl ⟨rfl, _, _, rfl⟩⟩
  · match i, hi with
    | 0, hi =>
      simp [setP] at hi
      subst hi
      refine ⟨.slice (some ⟨W.heap.size, 0, none⟩) 1 1, by simp [go_sem], Or.inr ⟨W.heap.size, 0, 1, rfl, by simp; omega, fun j o ho => ?_⟩⟩
      match j, ho with
      | 0, ho => simp at ho; subst ho; simp [go_sem]
      | j + 1, ho => simp at ho
    | i + 1, hi => simp [setP] at hi
  · match i, hi with
    | 0, hi => simp [setP] at hi; subst hi; simp [go_sem]
    | i + 1, hi => simp [setP] at hi
set_option maxRecDepth 100000 in
set_option maxHeartbeats 8000000 in
theorem topone_any {G : World → Prop} (C : KerC G) (w : World) (hG : G w) : Calls Tryz.prog 30 #[] w fun e w' => e = .returned (.bool true) ∧ Below w.heap.size w w' := by
  have hpl := setP_pln w w.heap.size rfl
  have hB0 : Below w.heap.size w (((w.alloc (.cells #[.int .i64 1, .int .i64 2, .int .i64 7] 28)).alloc (.cells #[.slice (some ⟨w.heap.size, 0, none⟩) 1 1] 29)).alloc (.cells #[.int .i64 0, .int .i64 1, .int .i64 0] 82)) := (((Below.refl _ _).alloc (Nat.le_refl _) _).alloc (by simp) _).alloc (by simp; omega) _
  have hN := C.new setP _ _ _ _ (C.all _ _ hG hB0) hpl setP_ok
  have HK : Hid (∀ W w1 kb F, G W → C.K W w1 setP (.slice (some ⟨w.heap.size + 1, 0, none⟩) 1 1) (.slice (some ⟨w.heap.size + 2, 0, none⟩) 1 1) (.slice none 0 0) (newK setP) kb F → Calls Tryz.prog 12 #[.pointer (some ⟨kb, 0, none⟩)] w1 fun e w2 => (∃ v, e = .returned v) ∧ Below W.heap.size W w2 ∧ Calls Tryz.prog 32 #[.pointer (some ⟨kb, 0, none⟩), .int .i64 0] w2 fun e w3 => ∃ s : St, e = .returned (.tuple #[.agg #[.int .i64 s.p, .int .i64 (s.c 0), .int .i64 (s.c 1), .int .i64 7, .int .i64 (s.c 3), .int .i64 (s.c 4), .int .i64 (s.c 5), .bool s.f], .nilIface]) ∧ Below w2.heap.size w2 w3) := fun W w1 kb F hW hK => by
    refine (C.tick hW hK setP_ok (new_ok setP_ok) (by decide)).mono ?_
    rintro e w2 ⟨rfl, F', hK2, tk, _⟩
    refine ⟨⟨_, rfl⟩, C.since hK2, (C.state 0 hK2 (tick_ok setP_ok (new_ok setP_ok)) setP_ok).mono ?_⟩
    rintro e w3 ⟨rfl, b3⟩
    refine ⟨roomK (tickK setP setP.spans (newK setP)).1 0, ?_, b3⟩
    rw [setP_r]
    unfold stA
    rw [setP_c]
    rfl
  have HG : Hid (G w) := hG
  clear hG hpl
  unfold plV at hN
  rw [show setP.ticks = 1 from rfl] at hN
  go_enter Tryz.func30, Tryz.ntmps30
  go_upto_region 4 with (go_at_call 9; refine hN.mono ?_; rintro e w1 ⟨kb, F, rfl, hK⟩)
  have q := HK.out _ w1 kb F (C.all _ _ HG.out hB0) hK
  have hbq := hB0
  generalize ((w.alloc (.cells #[.int .i64 1, .int .i64 2, .int .i64 7] 28)).alloc (.cells #[.slice (some ⟨w.heap.size, 0, none⟩) 1 1] 29)).alloc (.cells #[.int .i64 0, .int .i64 1, .int .i64 0] 82) = W0 at q hbq
  clear hN hK HK hB0
  go_upto_region 5 with (go_at_call 12; refine q.mono ?_; rintro e w2 ⟨⟨v, rfl⟩, b2, q3⟩; clear q)
  go_wp2_with (go_at_call 32; refine q3.mono ?_; rintro e w3 ⟨s, rfl, b3⟩; clear q3)
  go_ret
  have hb3 := hbq.trans ((b2.trans (b3.mono b2.size)).mono hbq.size)
  exact ⟨rfl, hb3.alloc hb3.size _⟩
end Go.Proofs.YtajfgmlockjmhaiGreatDoor
