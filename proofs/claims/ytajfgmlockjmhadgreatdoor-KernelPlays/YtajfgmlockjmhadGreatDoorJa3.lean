/-
  RowL, CloneOp, GClone, RdL, KerC, KerPoke, KerTime, KerWire, HdBL, IntsL, StRow, WLine, DLines, GKern, GNew0, WOut: joined into one text.
-/
import Derived.Test.YtajfgmlockjmhadGreatDoorJa1
import Derived.Test.YtajfgmlockjmhadGreatDoorJa2
import Derived.Deep.RegionLaw
import Derived.Deep.RegionWith
import Derived.Lib.SliceRun
import Derived.Deep.MidRow
import Derived.OneCell
namespace Go.Proofs.YtajfgmlockjmhadGreatDoor
open Go.RowKit
/-- Numbers as cells. -/
def ints (xs : List Int) : List Value := xs.map (Value.int .i64)
theorem ints_snoc (xs : List Int) (n : Int) : ints (xs ++ [n]) = ints xs ++ [.int .i64 n] := by simp [ints]
theorem ints_len (xs : List Int) : (ints xs).length = xs.length := by simp [ints]
theorem ints_at {xs : List Int} {i : Nat} {x : Int} (h : xs[i]? = some x) : (ints xs)[i]? = some (.int .i64 x) := by simp [ints, h]
/-- A row is as it was where its block is. -/
theorem own_block {w w' : World} {base : Nat} {e : TypeId} {size : Nat} {v : Value} {n : Nat} {xs : List Value} (h : w.ownsRow base e size v n xs) (hb : ∀ k, v.ownBlock = some k → w'.heap[k]? = w.heap[k]?) : w'.ownsRow base e size v n xs := by
  refine ⟨h.1, ?_⟩
  rcases h.2 with h2 | ⟨g, cap, cur, rfl, h3, h4, r⟩
  · exact Or.inl h2
  · exact Or.inr ⟨g, cap, cur, rfl, h3, (hb g rfl).trans h4, r⟩
theorem own_below {w w' : World} {base B : Nat} {e : TypeId} {size : Nat} {v : Value} {n : Nat} {xs : List Value} (h : w.ownsRow base e size v n xs) (hb : Below B w w') (hB : w.heap.size ≤ B) : w'.ownsRow base e size v n xs :=
  own_block h fun k hk => hb.block k (by have := (h.lt k hk).2; omega)
/-- A row that is cut. -/
theorem own_cut {w : World} {base : Nat} {e : TypeId} {g n cap k : Nat} {xs : List Value} (h : w.ownsRow base e 1 (.slice (some ⟨g, 0, none⟩) n cap) n xs) (hk : k ≤ n) : w.ownsRow base e 1 (.slice (some ⟨g, 0, none⟩) k cap) k (xs.take k) := by
  rcases h.2 with ⟨h2, _⟩ | ⟨g', cap', cur, e0, h3, h4, h5, h6, h7, h8⟩
  · cases h2
  · injection e0 with e1 _ e3
    injection e1 with e1
    injection e1 with e1
    subst e1
    subst e3
    refine ⟨by have := h.1; simp at this ⊢; omega, Or.inr ⟨g, cap, cur, rfl, h3, h4, by omega, h6, h7, ?_⟩⟩
    rw [← h8, List.take_take]
    congr 1
    omega
theorem own_cap {w : World} {base : Nat} {e : TypeId} {g n cap : Nat} {xs : List Value} (h : w.ownsRow base e 1 (.slice (some ⟨g, 0, none⟩) n cap) n xs) : base ≤ g ∧ g < w.heap.size ∧ n ≤ cap ∧ cap ≤ maxLen ∧ (∀ i x, xs[i]? = some x → w.cell? ⟨g, i, none⟩ = some x) ∧ (∀ i, i < cap → (w.cell? ⟨g, i, none⟩).isSome = true) ∧ (∀ i, w.frozen? ⟨g, i, none⟩ = false) := by
  have hl := h.lt g rfl
  rcases h.2 with ⟨h2, _⟩ | ⟨g', cap', cur, e0, h3, h4, h5, h6, h7, h8⟩
  · cases h2
  · injection e0 with e1 _ e3
    injection e1 with e1
    injection e1 with e1
    subst e1
    subst e3
    refine ⟨hl.1, hl.2, h5, h6, fun i x hx => ?_, fun i hi => ?_, fun i => by simp [World.frozen?, h4]⟩
    · have := h.cells (g := g) rfl i x hx
      rwa [Addr.add_lit, Nat.zero_add] at this
    · have hi' : i < cur.size := by omega
      simp [World.cell?, h4, hi']
theorem row_form {w : World} {base : Nat} {e : TypeId} {v : Value} {n : Nat} {xs : List Value} (h : w.ownsRow base e 1 v n xs) : (v = .slice none 0 0 ∧ n = 0) ∨ ∃ g cap, v = .slice (some ⟨g, 0, none⟩) n cap := by
  rcases h.2 with h2 | ⟨g, cap, _, rfl, _⟩
  · exact Or.inl h2
  · exact Or.inr ⟨g, cap, rfl⟩
theorem infoInt : (Tryz.prog.info? 3).map (fun i => (i.zero, i.size, i.bytes)) = some (some (.int .i64 0), 1, 8) := by kernel_rfl

theorem one_new (w : World) (x : Value) (t : TypeId) : ∀ j u, [x][j]? = some u → (w.alloc (.cells #[x] t)).cell? ((⟨w.heap.size, 0, none⟩ : Addr).add j) = some u := by
  intro j u hj
  match j, hj with
  | 0, hj => simp at hj; subst hj; simp [Addr.add]
theorem one_new_at {w : World} {k : Nat} (hk : k = w.heap.size) (x : Value) (t : TypeId) : ∀ j u, [x][j]? = some u → (w.alloc (.cells #[x] t)).cell? ((⟨k, 0, none⟩ : Addr).add j) = some u := by
  subst hk
  exact one_new w x t
theorem one_one (n : Int) : ∀ u ∈ [Value.int .i64 n], u.oneCell' = true := by
  intro u hu
  simp at hu
  subst hu
  rfl
/-- append onto a row that the call owns: where the new row lies. -/
theorem wpList_append_at {P : Program} {ops : Array Oper} {rest : List Oper} {o : Oper} {a : Act} {Q : Exit → Act → World → Prop} (w : World) (hgd : o.guard = none) (s x : Operand) (t : TypeId)
    (ho : o.op = .call { callee := .builtin .append, args := #[s, x], argTypes := #[t, t] })
    (base : Nat) (e : TypeId) (i : TypeInfo) (z : Value) (size bytes : Nat) (ht : P.underlying t = some (.slice e)) (hi : P.info? e = some i) (hz : i.zero = some z)
    (hsize : i.size = size) (hby : i.bytes = bytes) (hzs : z.cells.size = size) (hsz : 0 < size)
    (v : Value) (n : Nat) (xs : List Value) (hs : a.eval s = v) (hown : w.ownsRow base e size v n xs)
    (ad : Addr) (m c : Nat) (news : List Value) (hx : a.eval x = .slice (some ad) m c) (hl : news.length = m * size) (hnews : ∀ j u, news[j]? = some u → w.cell? (ad.add j) = some u) (h1 : ∀ u ∈ news, u.oneCell' = true)
    (h63 : n + m ≤ maxLen) (hbytes : (n + m) * bytes ≤ 140737488355328) (hbase : base ≤ w.heap.size)
    (h : ∀ v' w', w'.ownsRow base e size v' (n + m) (xs ++ news) → w.grownBy w' v.ownBlock → (∀ k, v'.ownBlock = some k → v.ownBlock = some k ∨ w.heap.size ≤ k) → wpList P ops Q rest (a.put o.dst v') w') : wpList P ops Q (o :: rest) a w := by
  obtain ⟨v', w', hr, h2, h3, h4⟩ := run_append_own (P := P) w base t o.type e i z size bytes ht hi hz hsize hby hzs hsz v n xs hown ad m c news hl hnews h1 h63 hbytes hbase
  have hw : ∀ k, v'.ownBlock = some k → v.ownBlock = some k ∨ w.heap.size ≤ k := by
    have h63' : n + m ≤ 9223372036854775807 := by simpa [maxLen] using h63
    subst hsize
    subst hby
    intro k hk
    rcases hown.2 with ⟨rfl, rfl⟩ | ⟨g, cap, cur, rfl, hbg, hg, hnc, hcm, hcs, htake⟩
    · by_cases hm : m = 0
      · rw [h4.2 ⟨rfl, hm⟩] at hk
        cases hk
      · have hr2 := run_append_nil (P := P) w t o.type e i z ht hi hz ad m c news hl hnews (by omega) (by omega) (by have hb := hbytes; simp only [Nat.zero_add] at hb; omega)
        rw [hr] at hr2
        injection hr2 with e1 e2
        subst e1
        simp only [Value.ownBlock, Option.some.injEq] at hk
        right
        omega
    · by_cases hroom : n + m ≤ cap
      · have hfit : n * i.size + news.length ≤ cur.size := by rw [hl, hcs, ← Nat.add_mul]; exact Nat.mul_le_mul_right _ hroom
        have hr2 := run_append_room (P := P) w t o.type e i ht hi g n cap cur hg ad m c news hl hnews h1 hroom hfit
        rw [hr] at hr2
        injection hr2 with e1 e2
        subst e1
        left
        exact hk
      · have holds : ∀ j u, xs[j]? = some u → w.cell? ((⟨g, 0, none⟩ : Addr).add j) = some u := hown.cells (g := g) rfl
        have hr2 := run_append_grow (P := P) w t o.type e i z ht hi hz ⟨g, 0, none⟩ n cap xs hown.1 holds ad m c news hl hnews (by omega) (by omega) (growslice_fits (by omega) hbytes)
        rw [hr] at hr2
        injection hr2 with e1 e2
        subst e1
        simp only [Value.ownBlock, Option.some.injEq] at hk
        right
        omega
  refine wpList_plain hgd fun K hK => ?_
  unfold Oper.wp execOp
  simp only [ho, resolve, invoke, builtin, Sem.run_bind, Sem.run_pure, Result.andThen_ok, List.map_toArray, List.map_cons, List.map_nil, hs, hx, hr]
  exact hK _ _ (h v' w' h2 h3 hw)

theorem append_none (ao : Option Addr) (cap : Nat) (W : World) (ty : TypeId) : (Builtin.append_ #[38, 38] ty #[.slice none 0 0, .slice ao 0 cap]).run Tryz.prog W = .ok (.slice none 0 0) W := by
  obtain ⟨ii, hi, hz0, hz1, hz2⟩ := info_parts infoInt
  cases ao <;> simp [Builtin.append_, run_underlying Tryz.underlying38, sizeOf, typeInfo, hi, Builtin.lenOf, Builtin.firstCells, loadCells, loadCellsFrom]
theorem wpList_append_eq {P : Program} {ops : Array Oper} {rest : List Oper} {o : Oper} {a : Act} {w : World} {Q : Exit → Act → World → Prop} (hgd : o.guard = none) (s x : Operand) (t : TypeId)
    (ho : o.op = .call { callee := .builtin .append, args := #[s, x], argTypes := #[t, t] }) (v1 v2 : Value) (hs : a.eval s = v1) (hx : a.eval x = v2) (v' : Value) (w' : World)
    (hr : (Builtin.append_ #[t, t] o.type #[v1, v2]).run P w = .ok v' w') (h : wpList P ops Q rest (a.put o.dst v') w') : wpList P ops Q (o :: rest) a w := by
  refine wpList_plain hgd fun K hK => ?_
  unfold Oper.wp execOp
  simp only [ho, resolve, invoke, builtin, Sem.run_bind, Sem.run_pure, Result.andThen_ok, List.map_toArray, List.map_cons, List.map_nil, hs, hx, hr]
  exact hK _ _ h
end Go.Proofs.YtajfgmlockjmhadGreatDoor
namespace Go.Proofs.YtajfgmlockjmhadGreatDoor
open Go.RowKit

/-- What lies in threes can be read cell by cell. -/
theorem trio_at {w : World} {b : Nat} : ∀ (l : List (Int × Int × Int)) (off : Nat), (∀ (i : Nat) o, l[i]? = some o → w.cell? ⟨b, off + i * 3, none⟩ = some (.int .i64 o.1) ∧ w.cell? ⟨b, off + i * 3 + 1, none⟩ = some (.int .i64 o.2.1) ∧ w.cell? ⟨b, off + i * 3 + 2, none⟩ = some (.int .i64 o.2.2)) → ∀ j u, (spCells l)[j]? = some u → w.cell? ((⟨b, off, none⟩ : Addr).add j) = some u
  | [], off, _, j, u, hj => by simp [spCells] at hj
  | x :: l, off, h, j, u, hj => by
    have e : spCells (x :: l) = [.int .i64 x.1, .int .i64 x.2.1, .int .i64 x.2.2] ++ spCells l := by simp [spCells]
    rw [e] at hj
    obtain ⟨h0, h1, h2⟩ := h 0 x (by simp)
    rw [Addr.add_lit]
    match j, hj with
    | 0, hj => simp at hj; subst hj; simpa using h0
    | 1, hj => simp at hj; subst hj; simpa using h1
    | 2, hj => simp at hj; subst hj; simpa using h2
    | j + 3, hj =>
      rw [List.getElem?_append_right (by simp)] at hj
      have ih := trio_at l (off + 3) (fun i o ho => by
        have := h (i + 1) o (by simpa using ho)
        rw [show off + (i + 1) * 3 = off + 3 + i * 3 by omega] at this
        exact this) j u (by simpa using hj)
      rw [Addr.add_lit] at ih
      rw [show off + (j + 3) = off + 3 + j by omega]
      exact ih
theorem spCells_len : ∀ l : List (Int × Int × Int), (spCells l).length = l.length * 3
  | [] => rfl
  | x :: l => by
    have e : spCells (x :: l) = [.int .i64 x.1, .int .i64 x.2.1, .int .i64 x.2.2] ++ spCells l := by simp [spCells]
    rw [e, List.length_append, spCells_len l, List.length_cons]
    simp
    omega
theorem spCells_one (l : List (Int × Int × Int)) : ∀ u ∈ spCells l, u.oneCell' = true := by
  intro u hu
  simp only [spCells, List.mem_flatMap] at hu
  obtain ⟨o, _, hu⟩ := hu
  simp at hu
  rcases hu with rfl | rfl | rfl <;> rfl
theorem ginfoOp : (Tryz.prog.info? 90).map (fun i => (i.zero, i.size, i.bytes)) = some (some (.agg #[.int .i64 0, .int .i64 0, .int .i64 0]), 3, 24) := by kernel_rfl
set_option maxRecDepth 100000 in
set_option maxHeartbeats 4000000 in
theorem clone_op_nil (cap : Nat) (w : World) : Calls Tryz.prog 29 #[.slice none 0 cap] w fun e w' => e = .returned (.slice none 0 0) ∧ w' = w := by
  have q : ∀ (w : World) (a : Option Addr) (n c n' c' : Nat), (binOp .eql 81 (.slice a n c) (.slice none n' c')).run Tryz.prog w = .ok (.bool a.isNone) w := fun w a n c n' c' => Lib.run_eql_slice_nil w _ _ a n c n' c' Tryz.underlying81
  go_enter Tryz.func29, Tryz.ntmps29
  go_wp2
  go_ret
  exact ⟨rfl, rfl⟩
set_option maxRecDepth 100000 in
set_option maxHeartbeats 4000000 in
theorem clone_op_some (ad : Addr) (cap : Nat) (l : List (Int × Int × Int)) (w : World) (hx : l.length ≤ 1000) (hc : ∀ j u, (spCells l)[j]? = some u → w.cell? (ad.add j) = some u) :
    Calls Tryz.prog 29 #[.slice (some ad) l.length cap] w fun e w' => ∃ v', e = .returned v' ∧ w'.ownsRow w.heap.size 90 3 v' l.length (spCells l) ∧ Below w.heap.size w w' := by
  obtain ⟨ii, hi, hz0, hz1, hz2⟩ := info_parts ginfoOp
  have q : ∀ (w : World) (a : Option Addr) (n c n' c' : Nat), (binOp .eql 81 (.slice a n c) (.slice none n' c')).run Tryz.prog w = .ok (.bool a.isNone) w := fun w a n c n' c' => Lib.run_eql_slice_nil w _ _ a n c n' c' Tryz.underlying81
  have HC : Hid (∀ j u, (spCells l)[j]? = some u → w.cell? (ad.add j) = some u) := hc
  clear hc
  go_enter Tryz.func29, Tryz.ntmps29
  go_wp2_with (at_builtin; refine wpList_append_at _ rfl _ _ 81 rfl w.heap.size 90 ii _ 3 24 Tryz.underlying81 hi hz0 hz1 hz2 rfl (by decide) _ _ _ rfl (World.ownsRow_made w #[] 0 (Nat.le_refl _) (Nat.zero_le _) rfl) ad l.length cap (spCells l) rfl ?c0A ?c1A ?c2A ?c3A ?c4A ?c5A ?_)
  case c0A => exact spCells_len l
  case c1A =>
    intro j u hj
    have h := HC.out j u hj
    exact (((Below.refl _ w).alloc (Nat.le_refl _) _).cell (p := ad.add j) (World.block_lt_of_cell? w _ h)).trans h
  case c2A => exact spCells_one l
  case c3A => unfold maxLen; omega
  case c4A => omega
  case c5A => simp
  intro v1 w2 own1 hg1 hat1
  clear q
  go_wp2
  go_ret
  refine ⟨v1, rfl, by simpa using own1, ((Below.refl _ w).alloc (Nat.le_refl _) _).grown hg1 (by simp) (by intro k hk; simp [Value.ownBlock] at hk; omega)⟩
theorem clone_ops (l : List O3) (v : Value) (w : World) (h : Ops w v l) (hx : l.length ≤ 1000) :
    Calls Tryz.prog 29 #[v] w fun e w' => ∃ v', e = .returned v' ∧ w'.ownsRow w.heap.size 90 3 v' l.length (spCells l) ∧ Below w.heap.size w w' := by
  rcases h with ⟨rfl, ao, cap, rfl⟩ | ⟨b, off, cap, rfl, hlt, hc⟩
  · cases ao with
    | none =>
      refine (clone_op_nil cap w).mono ?_
      rintro e w' ⟨rfl, rfl⟩
      exact ⟨_, rfl, World.ownsRow_nil _ _ _ _, Below.refl _ _⟩
    | some ad => exact clone_op_some ad cap [] w (Nat.zero_le _) (fun j u hj => by simp [spCells] at hj)
  · exact clone_op_some ⟨b, off, none⟩ cap l w hx (trio_at l off hc)
/-- Ops in a row of their own can be read. -/
theorem gops_own {w : World} {base : Nat} {v : Value} {l : List O3} (h : w.ownsRow base 90 3 v l.length (spCells l)) : Ops w v l := by
  have hl := h.lt
  have hcs := @World.ownsRow.cells _ _ _ _ _ _ _ h
  rcases h.2 with ⟨rfl, h0⟩ | ⟨g, cap, cur, rfl, _, _, hcap, _⟩
  · exact Or.inl ⟨List.eq_nil_of_length_eq_zero h0, _, _, rfl⟩
  · have hat : ∀ j u, (spCells l)[j]? = some u → w.cell? ⟨g, j, none⟩ = some u := fun j u hu => by
      have := hcs rfl j u hu
      rwa [Addr.add_lit, Nat.zero_add] at this
    refine Or.inr ⟨g, 0, cap, rfl, (hl g rfl).2, fun i o ho => ?_⟩
    obtain ⟨h1, h2, h3⟩ := spCells_at l i o ho
    exact ⟨by simpa using hat _ _ h1, by simpa using hat _ _ h2, by simpa using hat _ _ h3⟩
end Go.Proofs.YtajfgmlockjmhadGreatDoor
namespace Go.Proofs.YtajfgmlockjmhadGreatDoor
open Go.RowKit

set_option maxRecDepth 100000 in
set_option maxHeartbeats 4000000 in
theorem clone_sp_nil (cap : Nat) (w : World) : Calls Tryz.prog 28 #[.slice none 0 cap] w fun e w' => e = .returned (.slice none 0 0) ∧ w' = w := by
  have q : ∀ (w : World) (a : Option Addr) (n c n' c' : Nat), (binOp .eql 23 (.slice a n c) (.slice none n' c')).run Tryz.prog w = .ok (.bool a.isNone) w := fun w a n c n' c' => Lib.run_eql_slice_nil w _ _ a n c n' c' Tryz.underlying23
  go_enter Tryz.func28, Tryz.ntmps28
  go_wp2
  go_ret
  exact ⟨rfl, rfl⟩
set_option maxRecDepth 100000 in
set_option maxHeartbeats 4000000 in
theorem clone_sp_some (ad : Addr) (cap : Nat) (l : List (Int × Int × Int)) (w : World) (hx : l.length ≤ 1000) (hc : ∀ j u, (spCells l)[j]? = some u → w.cell? (ad.add j) = some u) :
    Calls Tryz.prog 28 #[.slice (some ad) l.length cap] w fun e w' => ∃ v', e = .returned v' ∧ w'.ownsRow w.heap.size 79 3 v' l.length (spCells l) ∧ Below w.heap.size w w' := by
  obtain ⟨ii, hi, hz0, hz1, hz2⟩ := info_parts infoSp
  have q : ∀ (w : World) (a : Option Addr) (n c n' c' : Nat), (binOp .eql 23 (.slice a n c) (.slice none n' c')).run Tryz.prog w = .ok (.bool a.isNone) w := fun w a n c n' c' => Lib.run_eql_slice_nil w _ _ a n c n' c' Tryz.underlying23
  have HC : Hid (∀ j u, (spCells l)[j]? = some u → w.cell? (ad.add j) = some u) := hc
  clear hc
  go_enter Tryz.func28, Tryz.ntmps28
  go_wp2_with (at_builtin; refine wpList_append_at _ rfl _ _ 23 rfl w.heap.size 79 ii _ 3 24 Tryz.underlying23 hi hz0 hz1 hz2 rfl (by decide) _ _ _ rfl (World.ownsRow_made w #[] 0 (Nat.le_refl _) (Nat.zero_le _) rfl) ad l.length cap (spCells l) rfl ?c0A ?c1A ?c2A ?c3A ?c4A ?c5A ?_)
  case c0A => exact spCells_len l
  case c1A =>
    intro j u hj
    have h := HC.out j u hj
    exact (((Below.refl _ w).alloc (Nat.le_refl _) _).cell (p := ad.add j) (World.block_lt_of_cell? w _ h)).trans h
  case c2A => exact spCells_one l
  case c3A => unfold maxLen; omega
  case c4A => omega
  case c5A => simp
  intro v1 w2 own1 hg1 hat1
  clear q
  go_wp2
  go_ret
  refine ⟨v1, rfl, by simpa using own1, ((Below.refl _ w).alloc (Nat.le_refl _) _).grown hg1 (by simp) (by intro k hk; simp [Value.ownBlock] at hk; omega)⟩
theorem clone_sps (l : List S3) (v : Value) (w : World) (h : Sps w v l) (hx : l.length ≤ 1000) :
    Calls Tryz.prog 28 #[v] w fun e w' => ∃ v', e = .returned v' ∧ w'.ownsRow w.heap.size 79 3 v' l.length (spCells l) ∧ Below w.heap.size w w' := by
  rcases h with ⟨rfl, ao, cap, rfl⟩ | ⟨b, off, cap, rfl, hcap, hlt, hc⟩
  · cases ao with
    | none =>
      refine (clone_sp_nil cap w).mono ?_
      rintro e w' ⟨rfl, rfl⟩
      exact ⟨_, rfl, World.ownsRow_nil _ _ _ _, Below.refl _ _⟩
    | some ad => exact clone_sp_some ad cap [] w (Nat.zero_le _) (fun j u hj => by simp [spCells] at hj)
  · exact clone_sp_some ⟨b, off, none⟩ cap l w hx (trio_at l off hc)
end Go.Proofs.YtajfgmlockjmhadGreatDoor
namespace Go.Proofs.YtajfgmlockjmhadGreatDoor
open Go.RowKit
/-- Numbers that can be read. -/
def Rd (w : World) (v : Value) (xs : List Int) : Prop := (xs = [] ∧ ∃ ao cap, v = .slice ao 0 cap) ∨ ∃ g off cap, v = .slice (some ⟨g, off, none⟩) xs.length cap ∧ xs.length ≤ cap ∧ cap ≤ maxLen ∧ g < w.heap.size ∧ ∀ (i : Nat) x, xs[i]? = some x → w.cell? ⟨g, off + i, none⟩ = some (.int .i64 x)
theorem Rd.form {w : World} {v : Value} {xs : List Int} (h : Rd w v xs) : ∃ ao cap, v = .slice ao xs.length cap := by
  rcases h with ⟨rfl, ao, cap, rfl⟩ | ⟨g, off, cap, rfl, _⟩
  · exact ⟨_, _, rfl⟩
  · exact ⟨_, _, rfl⟩
theorem Rd.block {w w' : World} {v : Value} {xs : List Int} (h : Rd w v xs) (hb : ∀ k, k < w.heap.size → v.ownBlock = some k → w'.heap[k]? = w.heap[k]?) (hs : w.heap.size ≤ w'.heap.size) : Rd w' v xs := by
  rcases h with h | ⟨g, off, cap, rfl, h1, h1', h2, h3⟩
  · exact Or.inl h
  · exact Or.inr ⟨g, off, cap, rfl, h1, h1', by omega, fun i x hx => (World.cell?_of_block (w := w) (a := ⟨g, off + i, none⟩) (hb g h2 rfl)).trans (h3 i x hx)⟩
theorem Rd.own {w : World} {base : Nat} {v : Value} {xs : List Int} (h : w.ownsRow base 3 1 v xs.length (ints xs)) : Rd w v xs := by
  rcases row_form h with ⟨rfl, h0⟩ | ⟨g, cap, rfl⟩
  · exact Or.inl ⟨List.eq_nil_of_length_eq_zero h0, _, _, rfl⟩
  · obtain ⟨_, h2, h3, h4, h5, _, _⟩ := own_cap h
    exact Or.inr ⟨g, 0, cap, rfl, h3, h4, h2, fun i x hx => by rw [Nat.zero_add]; exact h5 i _ (ints_at hx)⟩
theorem Rd.all {w w' : World} {v : Value} {xs : List Int} (h : Rd w v xs) (hb : Below w.heap.size w w') : Rd w' v xs := by
  rcases h with h | ⟨g, off, cap, rfl, h1, h1', h2, h3⟩
  · exact Or.inl h
  · exact Or.inr ⟨g, off, cap, rfl, h1, h1', by have := hb.size; omega, fun i x hx => (hb.cell (p := ⟨g, off + i, none⟩) h2).trans (h3 i x hx)⟩
end Go.Proofs.YtajfgmlockjmhadGreatDoor
namespace Go.Proofs.YtajfgmlockjmhadGreatDoor
open Go.RowKit

/-- What package kernel does, in every world of a kind: K w0 w p vc vs vw k kb F: made in the world w0, of the plan p that lay there, a kernel lies at block kb; it is k, and all that it has lies in the blocks F. -/
structure KerC (G : World → Prop) where
  K : World → World → PD → Value → Value → Value → KD → Nat → List Nat → Prop
  all : ∀ w w', G w → Below w.heap.size w w' → G w'
  since : ∀ {w0 w p vc vs vw k kb F}, K w0 w p vc vs vw k kb F → Below w0.heap.size w0 w
  ge : ∀ {w0 w p vc vs vw k kb F}, K w0 w p vc vs vw k kb F → ∀ g ∈ F, w0.heap.size ≤ g ∧ g < w.heap.size
  lower : ∀ {w1 w0 w p vc vs vw k kb F}, Below w1.heap.size w1 w0 → K w0 w p vc vs vw k kb F → K w1 w p vc vs vw k kb F
  frame : ∀ {w0 w w' p vc vs vw k kb F M}, K w0 w p vc vs vw k kb F → KTouch M w w' → (∀ m ∈ M, m ∉ F ∧ w0.heap.size ≤ m) → K w0 w' p vc vs vw k kb F
  new : ∀ (p : PD) (vc vs vw : Value) (W : World), G W → Pln W vc vs vw p → plchk p = 0 → Calls Tryz.prog 6 #[plV vc p.ticks vs vw] W fun e w' => ∃ kb F, e = .returned (.tuple #[.pointer (some ⟨kb, 0, none⟩), .nilIface]) ∧ K W w' p vc vs vw (newK p) kb F
  no : ∀ (p : PD) (vc vs vw : Value) (W : World), G W → Pln W vc vs vw p → plchk p ≠ 0 → Calls Tryz.prog 6 #[plV vc p.ticks vs vw] W fun e w' => ∃ x, e = .returned (.tuple #[.pointer x, wErr (plchk p)]) ∧ Below W.heap.size W w'
  tick : ∀ {w0 W p vc vs vw k kb F}, G w0 → K w0 W p vc vs vw k kb F → plchk p = 0 → KOk p k → k.time < 100000000 → Calls Tryz.prog 11 #[.pointer (some ⟨kb, 0, none⟩)] W fun e w' => e = .returned (evA (tickK p p.spans k).2) ∧ ∃ F', K w0 w' p vc vs vw (tickK p p.spans k).1 kb F' ∧ KTouch F W w' ∧ ∀ g ∈ F', g ∈ F ∨ W.heap.size ≤ g
  state : ∀ {w0 W p vc vs vw k kb F} (r : Int), K w0 W p vc vs vw k kb F → KOk p k → plchk p = 0 → Calls Tryz.prog 13 #[.pointer (some ⟨kb, 0, none⟩), .int .i64 r] W fun e w' => e = .returned (.tuple #[stA (roomK k r), wErr (errB (noRoom k r))]) ∧ Below W.heap.size W w'
end Go.Proofs.YtajfgmlockjmhadGreatDoor
namespace Go.Proofs.YtajfgmlockjmhadGreatDoor
open Go.RowKit

def KerPoke {G : World → Prop} (C : KerC G) : Prop := ∀ {w0 W p vc vs vw k kb F} (r c n : Int), C.K w0 W p vc vs vw k kb F → KOk p k → plchk p = 0 → Calls Tryz.prog 10 #[.pointer (some ⟨kb, 0, none⟩), .int .i64 r, .int .i64 c, .int .i64 n] W fun e w' => e = .returned (wErr (pokeN k r c n)) ∧ ∃ F', C.K w0 w' p vc vs vw (pokeK k r c n) kb F' ∧ KTouch F W w' ∧ ∀ g ∈ F', g ∈ F ∨ W.heap.size ≤ g
end Go.Proofs.YtajfgmlockjmhadGreatDoor
namespace Go.Proofs.YtajfgmlockjmhadGreatDoor
open Go.RowKit

/-- What time it is. -/
def KerTime {G : World → Prop} (C : KerC G) : Prop := ∀ {w0 W p vc vs vw k kb F}, C.K w0 W p vc vs vw k kb F → Calls Tryz.prog 16 #[.pointer (some ⟨kb, 0, none⟩)] W fun e w' => e = .returned (.int .i64 k.time) ∧ ∃ n, w' = W.drewN n
end Go.Proofs.YtajfgmlockjmhadGreatDoor
namespace Go.Proofs.YtajfgmlockjmhadGreatDoor
open Go.RowKit

/-- What a wire holds: what can be read lies in memory of its own. -/
def KerWire {G : World → Prop} (C : KerC G) : Prop := ∀ {w0 W p vc vs vw k kb F} (i : Int), C.K w0 W p vc vs vw k kb F → KOk p k → plchk p = 0 → Calls Tryz.prog 14 #[.pointer (some ⟨kb, 0, none⟩), .int .i64 i] W fun e w' => ∃ u, e = .returned (.tuple #[.agg #[u, .int .i64 (lineK k i).ls], wErr (errB (noLine k i))]) ∧ Rd w' u (lineK k i).xs ∧ (∀ g, u.ownBlock = some g → W.heap.size ≤ g ∧ g < w'.heap.size) ∧ Below W.heap.size W w'
end Go.Proofs.YtajfgmlockjmhadGreatDoor
namespace Go.Proofs.YtajfgmlockjmhadGreatDoor
open Go.RowKit

theorem lineK_len {p : PD} {k : KD} (hp : plchk p = 0) (hk : KOk p k) (i : Int) : (lineK k i).xs.length ≤ 1000000 := by
  unfold lineK
  split
  · exact Nat.zero_le _
  · rename_i h
    have hr : 0 ≤ i ∧ i < k.lines.length := by
      unfold noLine at h
      simp only [Bool.not_eq_true, Bool.or_eq_false_iff, decide_eq_false_iff_not] at h
      omega
    have hlt : i.toNat < k.lines.length := by omega
    have hl := List.getElem?_eq_getElem hlt
    have hx : p.wires[i.toNat]? = some (p.wires[i.toNat]'(by rw [← hk.ll]; exact hlt)) := List.getElem?_eq_getElem _
    simp only [List.getD, hl, Option.getD_some]
    have hlo := hk.lines _ _ _ hl hx
    rcases wchk_kind ((wschk_ok (plchk_zero hp).2.2.2.1).2 _ (List.mem_of_getElem? hx)) with ⟨h1, _⟩ | ⟨h1, h2, h3⟩
    · have := hlo.one h1
      omega
    · have := hlo.deep h1
      omega
/-- What is held, in its block. -/
def HdB (W : World) (b : Nat) (u : Value) (z : Int) : Prop := W.heap[b]? = some (.cells #[u, .int .i64 z] 54 (0, 0))
theorem HdB.cs {W : World} {b : Nat} {u : Value} {z : Int} (h : HdB W b u z) : W.cell? ⟨b, 0, none⟩ = some u ∧ W.cell? ⟨b, 1, none⟩ = some (.int .i64 z) := by
  have e : W.heap[b]? = _ := h
  simp [World.cell?, e]
theorem HdB.lt {W : World} {b : Nat} {u : Value} {z : Int} (h : HdB W b u z) : b < W.heap.size := (Array.getElem?_eq_some_iff.1 h).1
theorem HdB.there {W : World} {b : Nat} {u : Value} {z : Int} (h : HdB W b u z) (nq : Nat) : (W.drewN nq).there b 0 2 := by
  have hb : Below W.heap.size W (W.drewN nq) := below_dN (Below.refl _ _) nq
  have e : W.heap[b]? = _ := h
  intro j hj
  rw [hb.cell (p := ⟨b, 0 + j, none⟩) h.lt, hb.frozen (p := ⟨b, 0 + j, none⟩) h.lt]
  match j, hj with
  | 0, _ => simp [World.cell?, World.frozen?, e]
  | 1, _ => simp [World.cell?, World.frozen?, e]
theorem HdB.set {W : World} {b : Nat} {u : Value} {z : Int} (h : HdB W b u z) (u' : Value) (z' : Int) : HdB ((W.setCell ⟨b, 0, none⟩ u').setCell ⟨b, 1, none⟩ (.int .i64 z')) b u' z' := by
  have e : W.heap[b]? = _ := h
  unfold HdB
  simp [World.setCell, Array.getElem?_modify, e]
end Go.Proofs.YtajfgmlockjmhadGreatDoor
namespace Go.Proofs.YtajfgmlockjmhadGreatDoor
open Go.RowKit
set_option maxRecDepth 1000000 in
set_option maxHeartbeats 4000000 in
theorem wints_some (zs : List Int) (a ao b bo : Nat) (ac bc : Nat) (w : World) (ha : a < w.heap.size) (hb : b < w.heap.size) (hl : zs.length ≤ 1000000)
    (hca : ∀ (i : Nat) z, zs[i]? = some z → w.cell? ⟨a, ao + i, none⟩ = some (.int .i64 z)) (hcb : ∀ (i : Nat) z, zs[i]? = some z → w.cell? ⟨b, bo + i, none⟩ = some (.int .i64 z)) :
    Calls Tryz.prog 39 #[.slice (some ⟨a, ao, none⟩) zs.length ac, .slice (some ⟨b, bo, none⟩) zs.length bc] w fun e w' => e = .returned (.bool true) ∧ Below w.heap.size w w' := by
  go_enter Tryz.func39, Tryz.ntmps39
  go_wp2
  go_loopw [5] (fun i wr => ∃ k : Nat, k ≤ zs.length ∧ i = .int .i64 k ∧ Below w.heap.size w wr) (fun i _ => zs.length - (intOf i).toNat)
  case atStart => exact ⟨0, Nat.zero_le _, rfl, Below.refl _ _⟩
  case round =>
    obtain ⟨k, hk, rfl, hbw⟩ := hrel
    by_cases hkl : k < zs.length
    · obtain ⟨z, hz⟩ : ∃ z, zs[k]? = some z := ⟨zs[k], List.getElem?_eq_getElem hkl⟩
      have c0 := (hbw.cell (p := ⟨a, ao + k, none⟩) ha).trans (hca k z hz)
      have c1 := (hbw.cell (p := ⟨b, bo + k, none⟩) hb).trans (hcb k z hz)
      clear hz
      have hki : (k : Int) < (zs.length : Int) := by omega
      go_wp2
      go_quiet (fail)
      go_wp2
      go_roundw
      case rel => exact ⟨k + 1, by omega, by go_num, below_dN hbw _⟩
      case measure => simp [intOf]; omega
    · go_wp2
      go_ret
      exact ⟨rfl, hbw⟩
set_option maxRecDepth 1000000 in
set_option maxHeartbeats 4000000 in
theorem wints_nil (a b : Option Addr) (ac bc : Nat) (w : World) :
    Calls Tryz.prog 39 #[.slice a 0 ac, .slice b 0 bc] w fun e w' => e = .returned (.bool true) ∧ Below w.heap.size w w' := by
  go_enter Tryz.func39, Tryz.ntmps39
  go_wp2
  refine wp_loop_rounds 1 ?_
  rw [rounds_succ]
  go_wp2
  go_ret
  exact ⟨rfl, Below.refl _ _⟩
theorem wints_any (va vb : Value) (zs : List Int) (w : World) (ha : Rd w va zs) (hb : Rd w vb zs) (hl : zs.length ≤ 1000000) :
    Calls Tryz.prog 39 #[va, vb] w fun e w' => e = .returned (.bool true) ∧ Below w.heap.size w w' := by
  rcases ha with ⟨rfl, ao, ac, rfl⟩ | ⟨a, ao, ac, rfl, _, _, ha, hca⟩
  · rcases hb with ⟨_, bo, bc, rfl⟩ | ⟨b, bo, bc, rfl, _, _, hb, hcb⟩
    · exact wints_nil _ _ _ _ w
    · exact wints_nil _ _ _ _ w
  · rcases hb with ⟨rfl, bo, bc, rfl⟩ | ⟨b, bo, bc, rfl, _, _, hb, hcb⟩
    · exact wints_nil _ _ _ _ w
    · exact wints_some zs a ao b bo ac bc w ha hb hl hca hcb
end Go.Proofs.YtajfgmlockjmhadGreatDoor
namespace Go.Proofs.YtajfgmlockjmhadGreatDoor
open Go.RowKit

/-- States as cells. -/
def stCells (l : List St) : List Value := l.flatMap fun s => [.int .i64 s.p, .int .i64 (s.c 0), .int .i64 (s.c 1), .int .i64 (s.c 2), .int .i64 (s.c 3), .int .i64 (s.c 4), .int .i64 (s.c 5), .bool s.f]
theorem stCells_snoc (l : List St) (s : St) : stCells (l ++ [s]) = stCells l ++ [.int .i64 s.p, .int .i64 (s.c 0), .int .i64 (s.c 1), .int .i64 (s.c 2), .int .i64 (s.c 3), .int .i64 (s.c 4), .int .i64 (s.c 5), .bool s.f] := by simp [stCells]
theorem stCells_at : ∀ (l : List St) (i : Nat) (s : St), l[i]? = some s → (stCells l)[i * 8]? = some (.int .i64 s.p) ∧ (stCells l)[i * 8 + 1]? = some (.int .i64 (s.c 0)) ∧ (stCells l)[i * 8 + 2]? = some (.int .i64 (s.c 1)) ∧ (stCells l)[i * 8 + 3]? = some (.int .i64 (s.c 2)) ∧ (stCells l)[i * 8 + 4]? = some (.int .i64 (s.c 3)) ∧ (stCells l)[i * 8 + 5]? = some (.int .i64 (s.c 4)) ∧ (stCells l)[i * 8 + 6]? = some (.int .i64 (s.c 5)) ∧ (stCells l)[i * 8 + 7]? = some (.bool s.f)
  | [], i, s, h => by simp at h
  | x :: l, 0, s, h => by simp at h; subst h; simp [stCells]
  | x :: l, i + 1, s, h => by
    have h1 := stCells_at l i s (by simpa using h)
    have e : ∀ j, (stCells (x :: l))[(i + 1) * 8 + j]? = (stCells l)[i * 8 + j]? := fun j => by
      show ([.int .i64 x.p, .int .i64 (x.c 0), .int .i64 (x.c 1), .int .i64 (x.c 2), .int .i64 (x.c 3), .int .i64 (x.c 4), .int .i64 (x.c 5), .bool x.f] ++ stCells l)[(i + 1) * 8 + j]? = _
      rw [List.getElem?_append_right (by simp; omega)]
      congr 1
      simp
      omega
    exact ⟨(e 0).trans h1.1, (e 1).trans h1.2.1, (e 2).trans h1.2.2.1, (e 3).trans h1.2.2.2.1, (e 4).trans h1.2.2.2.2.1, (e 5).trans h1.2.2.2.2.2.1, (e 6).trans h1.2.2.2.2.2.2.1, (e 7).trans h1.2.2.2.2.2.2.2⟩
theorem st_one (s : St) : ∀ u ∈ [Value.int .i64 s.p, .int .i64 (s.c 0), .int .i64 (s.c 1), .int .i64 (s.c 2), .int .i64 (s.c 3), .int .i64 (s.c 4), .int .i64 (s.c 5), .bool s.f], u.oneCell' = true := by
  intro u hu
  simp only [List.mem_cons, List.not_mem_nil, or_false] at hu
  rcases hu with rfl | rfl | rfl | rfl | rfl | rfl | rfl | rfl <;> rfl
theorem st_new {w : World} {k : Nat} (hk : k = w.heap.size) (s : St) (t : TypeId) : ∀ j u, [Value.int .i64 s.p, .int .i64 (s.c 0), .int .i64 (s.c 1), .int .i64 (s.c 2), .int .i64 (s.c 3), .int .i64 (s.c 4), .int .i64 (s.c 5), .bool s.f][j]? = some u → (w.alloc (.cells #[.int .i64 s.p, .int .i64 (s.c 0), .int .i64 (s.c 1), .int .i64 (s.c 2), .int .i64 (s.c 3), .int .i64 (s.c 4), .int .i64 (s.c 5), .bool s.f] t)).cell? ((⟨k, 0, none⟩ : Addr).add j) = some u := by
  intro j u hj
  subst hk
  rw [Addr.add_lit, Nat.zero_add]
  match j, hj with
  | 0, hj => simp at hj; subst hj; simp
  | 1, hj => simp at hj; subst hj; simp
  | 2, hj => simp at hj; subst hj; simp
  | 3, hj => simp at hj; subst hj; simp
  | 4, hj => simp at hj; subst hj; simp
  | 5, hj => simp at hj; subst hj; simp
  | 6, hj => simp at hj; subst hj; simp
  | 7, hj => simp at hj; subst hj; simp
  | j + 8, hj => simp at hj
theorem infoSt : (Tryz.prog.info? 46).map (fun i => (i.zero, i.size, i.bytes)) = some (some (.agg #[.int .i64 0, .int .i64 0, .int .i64 0, .int .i64 0, .int .i64 0, .int .i64 0, .int .i64 0, .bool false]), 8, 64) := by kernel_rfl
end Go.Proofs.YtajfgmlockjmhadGreatDoor
namespace Go.Proofs.YtajfgmlockjmhadGreatDoor
open Go.RowKit

/-- The cells of a line. -/
def LnC (w : World) (b : Nat) (kd dp ls : Int) (v : Value) : Prop := w.cell? ⟨b, 0, none⟩ = some (.int .i64 kd) ∧ w.cell? ⟨b, 1, none⟩ = some (.int .i64 dp) ∧ w.cell? ⟨b, 2, none⟩ = some v ∧ w.cell? ⟨b, 3, none⟩ = some (.int .i64 ls) ∧ w.frozen? ⟨b, 2, none⟩ = false ∧ w.frozen? ⟨b, 3, none⟩ = false
/-- A line that the call owns: its block lies ahead of 'base', its numbers in a row of their own from 'base' on. -/
structure Ln (w : World) (base b : Nat) (kd dp : Int) (xs : List Int) (ls : Int) (v : Value) : Prop where
  c : LnC w b kd dp ls v
  row : w.ownsRow base 3 1 v xs.length (ints xs)
  lt : b < base
  le : base ≤ w.heap.size
/-- What a call on a line changes: its block, the row of its numbers; and it makes memory. -/
structure Touch (w w' : World) (b : Nat) (v v' : Value) : Prop where
  os : w'.os = w.os
  tape : w'.tape = w.tape
  output : w'.output = w.output
  size : w.heap.size ≤ w'.heap.size
  block : ∀ k, k < w.heap.size → k ≠ b → some k ≠ v.ownBlock → w'.heap[k]? = w.heap[k]?
  new : ∀ k, v'.ownBlock = some k → v.ownBlock = some k ∨ w.heap.size ≤ k
theorem Touch.refl (w : World) (b : Nat) (v : Value) : Touch w w b v v := ⟨rfl, rfl, rfl, Nat.le_refl _, fun _ _ _ _ => rfl, fun _ h => Or.inl h⟩
theorem Touch.below {w w' : World} {b B : Nat} {v v' : Value} (h : Touch w w' b v v') (hb : B ≤ b) (hv : ∀ k, v.ownBlock = some k → B ≤ k) (hB : B ≤ w.heap.size) : Below B w w' :=
  ⟨h.os, h.tape, h.output, h.size, fun k hk => h.block k (by omega) (by omega) (fun e => by have := hv k e.symm; omega)⟩
theorem Touch.alloc {w w' : World} {b : Nat} {v v' : Value} (h : Touch w w' b v v') (o : Obj) : Touch w (w'.alloc o) b v v' :=
  ⟨h.os, h.tape, h.output, by have := h.size; simp; omega, fun k hk hb hv => by rw [Below.heap_alloc _ _ _ (Nat.lt_of_lt_of_le hk h.size)]; exact h.block k hk hb hv, h.new⟩
theorem Touch.drew {w w' : World} {b : Nat} {v v' : Value} (h : Touch w w' b v v') : Touch w w'.drew b v v' := ⟨h.os, h.tape, h.output, h.size, h.block, h.new⟩
theorem Touch.set {w w' : World} {b : Nat} {v v' : Value} (h : Touch w w' b v v') (i : Nat) (u : Value) : Touch w (w'.setCell ⟨b, i, none⟩ u) b v v' :=
  ⟨h.os, h.tape, h.output, by have := h.size; simpa using this, fun k hk hb hv => by rw [Below.heap_setCell _ _ _ _ hb]; exact h.block k hk hb hv, h.new⟩
theorem Touch.cut {w w' : World} {b : Nat} {v v' v2 : Value} (h : Touch w w' b v v') (he : v2.ownBlock = v'.ownBlock) : Touch w w' b v v2 := ⟨h.os, h.tape, h.output, h.size, h.block, by rw [he]; exact h.new⟩
theorem Touch.grown {w w' w2 : World} {b : Nat} {v v' v2 : Value} (h : Touch w w' b v v') (hg : w'.grownBy w2 v'.ownBlock) (hn : ∀ k, v2.ownBlock = some k → v'.ownBlock = some k ∨ w'.heap.size ≤ k) : Touch w w2 b v v2 :=
  ⟨hg.os.trans h.os, hg.tape.trans h.tape, hg.output.trans h.output, Nat.le_trans h.size hg.size, fun k hk hb hv => by
    rw [hg.block k (Nat.lt_of_lt_of_le hk h.size) (fun e => by rcases h.new k e.symm with h1 | h1; exact hv h1.symm; omega)]
    exact h.block k hk hb hv,
   fun k hk => by rcases hn k hk with h1 | h1; exact h.new k h1; right; have := h.size; omega⟩
theorem Touch.dN {w w' : World} {b : Nat} {v v' : Value} (h : Touch w w' b v v') : ∀ n, Touch w (w'.drewN n) b v v'
  | 0 => h
  | n + 1 => (Touch.dN h n).drew
theorem LnC.block {w w' : World} {b : Nat} {kd dp ls : Int} {v : Value} (h : LnC w b kd dp ls v) (hb : w'.heap[b]? = w.heap[b]?) : LnC w' b kd dp ls v := by
  have hc := fun o => World.cell?_of_block (w := w) (w' := w') (a := ⟨b, o, none⟩) hb
  have hf := fun o => World.frozen?_of_block (w := w) (w' := w') (a := ⟨b, o, none⟩) hb
  unfold LnC
  simp only [hc, hf]
  exact h
theorem LnC.items {w : World} {b : Nat} {kd dp ls : Int} {v : Value} (h : LnC w b kd dp ls v) (u : Value) : LnC (w.setCell ⟨b, 2, none⟩ u) b kd dp ls u := by
  obtain ⟨c0, c1, c2, c3, f2, f3⟩ := h
  refine ⟨?_, ?_, ?_, ?_, ?_, ?_⟩ <;> simp [go_sem, c0, c1, c2, c3, f2, f3]
theorem LnC.lost {w : World} {b : Nat} {kd dp ls : Int} {v : Value} (h : LnC w b kd dp ls v) (n : Int) : LnC (w.setCell ⟨b, 3, none⟩ (.int .i64 n)) b kd dp n v := by
  obtain ⟨c0, c1, c2, c3, f2, f3⟩ := h
  refine ⟨?_, ?_, ?_, ?_, ?_, ?_⟩ <;> simp [go_sem, c0, c1, c2, c3, f2, f3]
theorem LnC.lt {w : World} {b : Nat} {kd dp ls : Int} {v : Value} (h : LnC w b kd dp ls v) : b < w.heap.size := wlt h.1
theorem LnC.below {w w' : World} {b B : Nat} {kd dp ls : Int} {v : Value} (h : LnC w b kd dp ls v) (hb : Below B w w') (hB : b < B) : LnC w' b kd dp ls v := h.block (hb.block b hB)
theorem Ln.below {w w' : World} {base b : Nat} {kd dp ls : Int} {xs : List Int} {v : Value} (h : Ln w base b kd dp xs ls v) (hb : Below w.heap.size w w') : Ln w' base b kd dp xs ls v :=
  ⟨h.c.below hb (Nat.lt_of_lt_of_le h.lt h.le), own_below h.row hb (Nat.le_refl _), h.lt, Nat.le_trans h.le hb.size⟩
theorem Ln.own {w : World} {base b : Nat} {kd dp ls : Int} {xs : List Int} {v : Value} (h : Ln w base b kd dp xs ls v) {B : Nat} (hB : B ≤ base) : ∀ k, v.ownBlock = some k → B ≤ k := fun k hk => Nat.le_trans hB (h.row.lt k hk).1
end Go.Proofs.YtajfgmlockjmhadGreatDoor
namespace Go.Proofs.YtajfgmlockjmhadGreatDoor
open Go.RowKit

theorem KTouch.ln {M : List Nat} {w w' : World} {b : Nat} {v v' : Value} (h : Touch w w' b v v') (hb : b ∈ M) (hv : ∀ g, v.ownBlock = some g → g ∈ M) : KTouch M w w' := ⟨h.os, h.tape, h.output, h.size, fun k hk hm => h.block k hk (fun e => hm (by rw [e]; exact hb)) (fun e => hm (hv k e.symm))⟩
/-- A line as it was where elsewhere was written. -/
theorem Ln.touch {w w' : World} {base b : Nat} {kd dp ls : Int} {xs : List Int} {v : Value} (h : Ln w base b kd dp xs ls v) {M : List Nat} (ht : KTouch M w w') (hb : b ∉ M) (hv : ∀ g, v.ownBlock = some g → g ∉ M) : Ln w' base b kd dp xs ls v := by
  have hlt : b < w.heap.size := Nat.lt_of_lt_of_le h.lt h.le
  have hbk := ht.block b hlt hb
  have hc := fun o => World.cell?_of_block (w := w) (w' := w') (a := ⟨b, o, none⟩) hbk
  have hf := fun o => World.frozen?_of_block (w := w) (w' := w') (a := ⟨b, o, none⟩) hbk
  refine ⟨?_, own_block h.row (fun k hk => ht.block k (h.row.lt k hk).2 (hv k hk)), h.lt, Nat.le_trans h.le ht.size⟩
  have hcc := h.c
  unfold LnC at *
  simp only [hc, hf]
  exact hcc
/-- Lines in a row, by pointers. -/
structure DLs (w : World) (b1 lr : Nat) (lv : Value) (bs : List Nat) (us : List Value) (ls : List LnD) : Prop where
  lv : (ls = [] ∧ lv = .slice none 0 0) ∨ ∃ cap, lv = .slice (some ⟨lr, 0, none⟩) ls.length cap ∧ ls.length ≤ cap
  ptr : ∀ (i : Nat) b, bs[i]? = some b → w.cell? ⟨lr, i, none⟩ = some (.pointer (some ⟨b, 0, none⟩))
  bl : bs.length = ls.length
  ul : us.length = ls.length
  line : ∀ (i : Nat) l b u, ls[i]? = some l → bs[i]? = some b → us[i]? = some u → Ln w b1 b l.w.2.2.1 l.w.2.2.2 l.xs l.ls u
  lt : lr < b1 ∧ ∀ b ∈ bs, b < b1
  le : b1 ≤ w.heap.size
  ap : ∀ b ∈ bs, b ≠ lr
  two : ∀ (i j : Nat) b b', i < j → bs[i]? = some b → bs[j]? = some b' → b ≠ b'
  rows : ∀ (i j : Nat) u u', i ≠ j → us[i]? = some u → us[j]? = some u' → ∀ g, u.ownBlock = some g → u'.ownBlock ≠ some g
/-- Their blocks. -/
def DF (lr : Nat) (bs : List Nat) (us : List Value) : List Nat := lr :: (bs ++ us.filterMap Value.ownBlock)
theorem DLs.row {w : World} {b1 lr : Nat} {lv : Value} {bs : List Nat} {us : List Value} {ls : List LnD} (h : DLs w b1 lr lv bs us ls) : ∀ u ∈ us, ∀ g, u.ownBlock = some g → b1 ≤ g ∧ g < w.heap.size := fun u hu g hg => by
  obtain ⟨i, hi⟩ := List.mem_iff_getElem?.1 hu
  have hlt := (List.getElem?_eq_some_iff.1 hi).1
  have hl : ls[i]? = some (ls[i]'(by rw [← h.ul]; exact hlt)) := List.getElem?_eq_getElem _
  have hb : bs[i]? = some (bs[i]'(by rw [h.bl, ← h.ul]; exact hlt)) := List.getElem?_eq_getElem _
  exact (h.line i _ _ u hl hb hi).row.lt g hg
theorem DLs.flt {w : World} {b1 lr : Nat} {lv : Value} {bs : List Nat} {us : List Value} {ls : List LnD} (h : DLs w b1 lr lv bs us ls) : ∀ g ∈ DF lr bs us, g < w.heap.size := fun g hg => by
  have hle := h.le
  unfold DF at hg
  simp only [List.mem_cons, List.mem_append, List.mem_filterMap] at hg
  rcases hg with h1 | h1 | ⟨u, h1, h2⟩
  · have := h.lt.1; omega
  · have := h.lt.2 g h1; omega
  · exact (h.row u h1 g h2).2
/-- What is written elsewhere leaves them as they are. -/
theorem DLs.frame {w w' : World} {b1 lr : Nat} {lv : Value} {bs : List Nat} {us : List Value} {ls : List LnD} (h : DLs w b1 lr lv bs us ls) {M : List Nat} (ht : KTouch M w w') (hM : ∀ m ∈ M, m ∉ DF lr bs us) : DLs w' b1 lr lv bs us ls := by
  have m4 : ∀ b ∈ bs, b ∈ DF lr bs us := fun b hb => by simp [DF, hb]
  have m5 : ∀ u ∈ us, ∀ g, u.ownBlock = some g → g ∈ DF lr bs us := fun u hu g hg => by
    unfold DF
    simp only [List.mem_cons, List.mem_append, List.mem_filterMap]
    exact Or.inr (Or.inr ⟨u, hu, hg⟩)
  have m3 : lr ∈ DF lr bs us := by simp [DF]
  have hlr := fun o => World.cell?_of_block (w := w) (w' := w') (a := ⟨lr, o, none⟩) (ht.block lr (h.flt lr m3) (fun hm => hM lr hm m3))
  exact ⟨h.lv, fun i b hi => (hlr i).trans (h.ptr i b hi), h.bl, h.ul, fun i l b u h1 h2 h3 => (h.line i l b u h1 h2 h3).touch ht (fun hm => hM b hm (m4 b (List.mem_of_getElem? h2))) (fun g hg hm => hM g hm (m5 u (List.mem_of_getElem? h3) g hg)), h.lt, Nat.le_trans h.le ht.size, h.ap, h.two, h.rows⟩
/-- Where a line lies. -/
theorem DLs.at {w : World} {b1 lr : Nat} {lv : Value} {bs : List Nat} {us : List Value} {ls : List LnD} (h : DLs w b1 lr lv bs us ls) {i : Nat} (hi : i < ls.length) : ∃ b u cap l, ls[i]? = some l ∧ bs[i]? = some b ∧ us[i]? = some u ∧ lv = .slice (some ⟨lr, 0, none⟩) ls.length cap ∧ ls.length ≤ cap ∧ w.cell? ⟨lr, i, none⟩ = some (.pointer (some ⟨b, 0, none⟩)) ∧ Ln w b1 b l.w.2.2.1 l.w.2.2.2 l.xs l.ls u := by
  have hb : bs[i]? = some (bs[i]'(by rw [h.bl]; exact hi)) := List.getElem?_eq_getElem _
  have hu : us[i]? = some (us[i]'(by rw [h.ul]; exact hi)) := List.getElem?_eq_getElem _
  have hl : ls[i]? = some ls[i] := List.getElem?_eq_getElem hi
  rcases h.lv with ⟨e, _⟩ | ⟨cap, h1, h2⟩
  · rw [e] at hi
    simp at hi
  · exact ⟨_, _, cap, _, hl, hb, hu, h1, h2, h.ptr i _ hb, h.line i _ _ _ hl hb hu⟩
/-- One line is another one. -/
theorem DLs.set {w w' : World} {b1 lr : Nat} {lv : Value} {bs : List Nat} {us : List Value} {ls : List LnD} (h : DLs w b1 lr lv bs us ls) {i b : Nat} {u u' : Value} {l' : LnD} (hb : bs[i]? = some b) (hu : us[i]? = some u) (ht : Touch w w' b u u') (hl : Ln w' b1 b l'.w.2.2.1 l'.w.2.2.2 l'.xs l'.ls u') :
    DLs w' b1 lr lv bs (us.set i u') (ls.set i l') ∧ KTouch (b :: (us.filterMap Value.ownBlock)) w w' ∧ ∀ g ∈ DF lr bs (us.set i u'), g ∈ DF lr bs us ∨ w.heap.size ≤ g := by
  have hbm := List.mem_of_getElem? hb
  have hum := List.mem_of_getElem? hu
  have hil : i < us.length := (List.getElem?_eq_some_iff.1 hu).1
  have hne : ls ≠ [] := fun e => by
    have := h.bl
    rw [e, List.length_nil] at this
    have := (List.getElem?_eq_some_iff.1 hb).1
    omega
  have hle := h.le
  have hblk : ∀ k, k < w.heap.size → k ≠ b → u.ownBlock ≠ some k → w'.heap[k]? = w.heap[k]? := fun k h1 h2 h3 => ht.block k h1 h2 (fun e => h3 e.symm)
  have hlow : ∀ k, k < b1 → u.ownBlock ≠ some k := fun k hk e => by have := (h.row u hum k e).1; omega
  have hlr := fun o => World.cell?_of_block (w := w) (w' := w') (a := ⟨lr, o, none⟩) (hblk lr (by have := h.lt.1; omega) (Ne.symm (h.ap b hbm)) (hlow lr h.lt.1))
  refine ⟨⟨?_, fun j b' hj => (hlr j).trans (h.ptr j b' hj), by simp only [List.length_set]; exact h.bl, by simp only [List.length_set]; exact h.ul, fun j l b' u2 h1 h2 h3 => ?_, h.lt, Nat.le_trans h.le ht.size, h.ap, h.two, fun j j' u2 u3 hjj h1 h2 g hg => ?_⟩, ?_, fun g hg => ?_⟩
  · rcases h.lv with ⟨e, _⟩ | ⟨cap, h1, h2⟩
    · exact absurd e hne
    · exact Or.inr ⟨cap, by simp only [List.length_set]; exact h1, by simp only [List.length_set]; exact h2⟩
  · by_cases hij : i = j
    · subst hij
      rw [List.getElem?_set_self (by rw [← h.bl]; exact (List.getElem?_eq_some_iff.1 hb).1)] at h1
      rw [List.getElem?_set_self hil] at h3
      rw [hb] at h2
      obtain rfl := Option.some.inj h1
      obtain rfl := Option.some.inj h2
      obtain rfl := Option.some.inj h3
      exact hl
    · rw [List.getElem?_set_ne hij] at h1 h3
      have hbb : b' ≠ b := by
        rcases Nat.lt_or_ge i j with hlt | hge
        · exact Ne.symm (h.two i j b b' hlt hb h2)
        · exact h.two j i b' b (by omega) h2 hb
      have hL := h.line j l b' u2 h1 h2 h3
      refine hL.touch (M := b :: (u.ownBlock.toList)) (KTouch.ln ht (by simp) (fun g hg => by simp [hg])) (fun hm => ?_) (fun g hg hm => ?_)
      · rcases List.mem_cons.1 hm with e | e
        · exact hbb e
        · have : u.ownBlock = some b' := by simpa using e
          exact hlow b' (h.lt.2 b' (List.mem_of_getElem? h2)) this
      · rcases List.mem_cons.1 hm with e | e
        · have := (h.row u2 (List.mem_of_getElem? h3) g hg).1
          have := h.lt.2 b hbm
          omega
        · have : u.ownBlock = some g := by simpa using e
          exact h.rows j i u2 u (Ne.symm hij) h3 hu g hg this
  · by_cases hi1 : i = j
    · subst hi1
      rw [List.getElem?_set_self hil] at h1
      obtain rfl := Option.some.inj h1
      rw [List.getElem?_set_ne hjj] at h2
      intro e
      rcases ht.new g hg with h4 | h4
      · exact h.rows i j' u u3 hjj hu h2 g h4 e
      · have := (h.row u3 (List.mem_of_getElem? h2) g e).2
        omega
    · rw [List.getElem?_set_ne hi1] at h1
      by_cases hi2 : i = j'
      · subst hi2
        rw [List.getElem?_set_self hil] at h2
        obtain rfl := Option.some.inj h2
        intro e
        rcases ht.new g e with h4 | h4
        · exact h.rows j i u2 u (Ne.symm hi1) h1 hu g hg h4
        · have := (h.row u2 (List.mem_of_getElem? h1) g hg).2
          omega
      · rw [List.getElem?_set_ne hi2] at h2
        exact h.rows j j' u2 u3 hjj h1 h2 g hg
  · exact KTouch.ln ht (by simp) (fun g hg => List.mem_cons_of_mem _ (List.mem_filterMap.2 ⟨u, hum, hg⟩))
  · unfold DF at hg ⊢
    simp only [List.mem_cons, List.mem_append, List.mem_filterMap] at hg ⊢
    rcases hg with h1 | h1 | ⟨v, h1, h2⟩
    · exact Or.inl (Or.inl h1)
    · exact Or.inl (Or.inr (Or.inl h1))
    · rcases List.mem_or_eq_of_mem_set h1 with h3 | h3
      · exact Or.inl (Or.inr (Or.inr ⟨v, h3, h2⟩))
      · subst h3
        rcases ht.new g h2 with h4 | h4
        · exact Or.inl (Or.inr (Or.inr ⟨u, hum, h4⟩))
        · exact Or.inr h4
end Go.Proofs.YtajfgmlockjmhadGreatDoor
namespace Go.Proofs.YtajfgmlockjmhadGreatDoor
open Go.RowKit

/-- Where it lies. -/
structure GW where
  cv : Value
  sv : Value
  F0 : List Nat
  rb : Nat
  rcap : Nat
  lv : Value
  lr : Nat
  b1 : Nat
  bs : List Nat
  us : List Value
/-- All its blocks. -/
def GW.F (kb : Nat) (a : GW) : List Nat := kb :: a.rb :: (a.F0 ++ DF a.lr a.bs a.us)
/-- The plan's code and spans, copied: they lie in the blocks F0. -/
def Src (w : World) (F0 : List Nat) (cv sv : Value) (p : PD) : Prop := ∀ w', w.heap.size ≤ w'.heap.size → (∀ b ∈ F0, w'.heap[b]? = w.heap[b]?) → Cds w' cv p.code ∧ Sps w' sv p.spans
theorem Src.here {w : World} {F0 : List Nat} {cv sv : Value} {p : PD} (h : Src w F0 cv sv p) : Cds w cv p.code ∧ Sps w sv p.spans := h w (Nat.le_refl _) (fun _ _ => rfl)
theorem Src.kept {w w' : World} {F0 : List Nat} {cv sv : Value} {p : PD} (h : Src w F0 cv sv p) (hs : w.heap.size ≤ w'.heap.size) (hb : ∀ b ∈ F0, w'.heap[b]? = w.heap[b]?) : Src w' F0 cv sv p := fun w2 h2 hb2 => h w2 (Nat.le_trans hs h2) (fun b hm => (hb2 b hm).trans (hb b hm))
structure GK (w : World) (base : Nat) (p : PD) (k : KD) (kb : Nat) (a : GW) : Prop where
  c0 : w.cell? ⟨kb, 0, none⟩ = some a.cv
  c1 : w.cell? ⟨kb, 1, none⟩ = some (.int .i64 p.ticks)
  c2 : w.cell? ⟨kb, 2, none⟩ = some a.sv
  c3 : w.cell? ⟨kb, 3, none⟩ = some (.slice (some ⟨a.rb, 0, none⟩) k.rooms.length a.rcap)
  c4 : w.cell? ⟨kb, 4, none⟩ = some a.lv
  c5 : w.cell? ⟨kb, 5, none⟩ = some (.int .i64 k.time)
  f5 : w.frozen? ⟨kb, 5, none⟩ = false
  f2 : w.frozen? ⟨kb, 2, none⟩ = false
  src : Src w a.F0 a.cv a.sv p
  rooms : ∀ (i : Nat) s, k.rooms[i]? = some s → StC w a.rb (i * 8) s
  rf : ∀ o, w.frozen? ⟨a.rb, o, none⟩ = false
  lines : DLs w a.b1 a.lr a.lv a.bs a.us k.lines
  ge : ∀ g ∈ a.F kb, base ≤ g
  lt : kb < w.heap.size ∧ a.rb < w.heap.size ∧ ∀ g ∈ a.F0, g < w.heap.size
  ap : kb ≠ a.rb ∧ kb ∉ DF a.lr a.bs a.us ∧ a.rb ∉ DF a.lr a.bs a.us
  ap0 : kb ∉ a.F0 ∧ a.rb ∉ a.F0 ∧ ∀ g ∈ a.F0, g ∉ DF a.lr a.bs a.us
theorem GK.flt {w : World} {base : Nat} {p : PD} {k : KD} {kb : Nat} {a : GW} (h : GK w base p k kb a) : ∀ g ∈ a.F kb, g < w.heap.size := fun g hg => by
  unfold GW.F at hg
  rcases List.mem_cons.1 hg with h1 | h1
  · rw [h1]; exact h.lt.1
  · rcases List.mem_cons.1 h1 with h2 | h2
    · rw [h2]; exact h.lt.2.1
    · rcases List.mem_append.1 h2 with h3 | h3
      · exact h.lt.2.2 g h3
      · exact h.lines.flt g h3
/-- What is written elsewhere leaves it as it is. -/
theorem GK.frame {w w' : World} {base : Nat} {p : PD} {k : KD} {kb : Nat} {a : GW} (h : GK w base p k kb a) {M : List Nat} (ht : KTouch M w w') (hM : ∀ m ∈ M, m ∉ a.F kb) : GK w' base p k kb a := by
  have m1 : kb ∈ a.F kb := by simp [GW.F]
  have m2 : a.rb ∈ a.F kb := by simp [GW.F]
  have m3 : ∀ g ∈ a.F0, g ∈ a.F kb := fun g hg => by simp [GW.F, hg]
  have m4 : ∀ g ∈ DF a.lr a.bs a.us, g ∈ a.F kb := fun g hg => by simp [GW.F, hg]
  have b1 := ht.block kb h.lt.1 (fun hm => hM _ hm m1)
  have b2 := ht.block a.rb h.lt.2.1 (fun hm => hM _ hm m2)
  have hc := fun o => World.cell?_of_block (w := w) (w' := w') (a := ⟨kb, o, none⟩) b1
  have hf := fun o => World.frozen?_of_block (w := w) (w' := w') (a := ⟨kb, o, none⟩) b1
  have hrf := fun o => World.frozen?_of_block (w := w) (w' := w') (a := ⟨a.rb, o, none⟩) b2
  have hs := ht.size
  exact ⟨(hc 0).trans h.c0, (hc 1).trans h.c1, (hc 2).trans h.c2, (hc 3).trans h.c3, (hc 4).trans h.c4, (hc 5).trans h.c5, (hf 5).trans h.f5, (hf 2).trans h.f2, h.src.kept hs (fun b hb => ht.block b (h.lt.2.2 b hb) (fun hm => hM b hm (m3 b hb))), fun i s hs => (h.rooms i s hs).block b2, fun o => (hrf o).trans (h.rf o), h.lines.frame ht (fun m hm hd => hM m hm (m4 m hd)), h.ge, ⟨by have := h.lt.1; omega, by have := h.lt.2.1; omega, fun g hg => by have := h.lt.2.2 g hg; omega⟩, h.ap, h.ap0⟩
theorem GK.all {w w' : World} {base : Nat} {p : PD} {k : KD} {kb : Nat} {a : GW} (h : GK w base p k kb a) (hb : Below w.heap.size w w') : GK w' base p k kb a := h.frame (M := []) (KTouch.of hb) (by simp)
theorem GK.lower {w : World} {base base' : Nat} {p : PD} {k : KD} {kb : Nat} {a : GW} (h : GK w base p k kb a) (hb : base' ≤ base) : GK w base' p k kb a :=
  ⟨h.c0, h.c1, h.c2, h.c3, h.c4, h.c5, h.f5, h.f2, h.src, h.rooms, h.rf, h.lines, fun g hg => Nat.le_trans hb (h.ge g hg), h.lt, h.ap, h.ap0⟩
/-- The time is written. -/
theorem GK.time {w : World} {base : Nat} {p : PD} {k : KD} {kb : Nat} {a : GW} (h : GK w base p k kb a) (t : Int) : GK (w.setCell ⟨kb, 5, none⟩ (.int .i64 t)) base p ⟨k.rooms, k.lines, t⟩ kb a := by
  have ht : KTouch [kb] w (w.setCell ⟨kb, 5, none⟩ (.int .i64 t)) := KTouch.set w (by simp) 5 _
  have b2 : (w.setCell ⟨kb, 5, none⟩ (.int .i64 t)).heap[a.rb]? = w.heap[a.rb]? := Below.heap_setCell _ _ _ _ (Ne.symm h.ap.1)
  refine ⟨by simpa [go_sem] using h.c0, by simpa [go_sem] using h.c1, by simpa [go_sem] using h.c2, by simpa [go_sem] using h.c3, by simpa [go_sem] using h.c4, by simp [go_sem, h.c5], by simpa using h.f5, by simpa using h.f2, h.src.kept (by simp) (fun b hb => Below.heap_setCell _ _ _ _ (fun e => h.ap0.1 (by rw [← show b = kb from e]; exact hb))), fun i s hs => (h.rooms i s hs).block b2, fun o => by simpa using h.rf o, h.lines.frame ht (fun m hm => ?_), h.ge, by simpa using h.lt, h.ap, h.ap0⟩
  rw [List.mem_singleton] at hm
  subst hm
  exact h.ap.2.1
/-- A room is another one: what is written lies within its eight cells. -/
theorem GK.room {w w' : World} {base : Nat} {p : PD} {k : KD} {kb : Nat} {a : GW} (h : GK w base p k kb a) {r : Nat} {s s' : St} (hr : k.rooms[r]? = some s) (ht : KTouch [a.rb] w w') (hat : StC w' a.rb (r * 8) s') (hoff : ∀ i, i < r * 8 ∨ r * 8 + 8 ≤ i → w'.cell? ⟨a.rb, i, none⟩ = w.cell? ⟨a.rb, i, none⟩) (hfz : ∀ i, w'.frozen? ⟨a.rb, i, none⟩ = w.frozen? ⟨a.rb, i, none⟩) : GK w' base p ⟨k.rooms.set r s', k.lines, k.time⟩ kb a := by
  have hlen := (List.getElem?_eq_some_iff.1 hr).1
  have b1 := ht.block kb h.lt.1 (by simpa using h.ap.1)
  have hc := fun o => World.cell?_of_block (w := w) (w' := w') (a := ⟨kb, o, none⟩) b1
  have hf := fun o => World.frozen?_of_block (w := w) (w' := w') (a := ⟨kb, o, none⟩) b1
  have hs := ht.size
  refine ⟨(hc 0).trans h.c0, (hc 1).trans h.c1, (hc 2).trans h.c2, by simp only [List.length_set]; exact (hc 3).trans h.c3, (hc 4).trans h.c4, (hc 5).trans h.c5, (hf 5).trans h.f5, (hf 2).trans h.f2, h.src.kept hs (fun b hb => ht.block b (h.lt.2.2 b hb) (fun hm => ?_)), fun j s2 hs => ?_, fun o => (hfz o).trans (h.rf o), h.lines.frame ht (fun m hm => ?_), h.ge, ⟨by have := h.lt.1; omega, by have := h.lt.2.1; omega, fun g hg => by have := h.lt.2.2 g hg; omega⟩, h.ap, h.ap0⟩
  · rw [List.mem_singleton] at hm
    subst hm
    exact h.ap0.2.1 hb
  · simp only at hs
    by_cases hij : r = j
    · subst hij
      rw [List.getElem?_set_self hlen] at hs
      obtain rfl := Option.some.inj hs
      exact hat
    · rw [List.getElem?_set_ne hij] at hs
      obtain ⟨q0, q1, q2, q3, q4, q5, q6, q7⟩ := h.rooms j s2 hs
      exact ⟨(hoff _ (by omega)).trans q0, (hoff _ (by omega)).trans q1, (hoff _ (by omega)).trans q2, (hoff _ (by omega)).trans q3, (hoff _ (by omega)).trans q4, (hoff _ (by omega)).trans q5, (hoff _ (by omega)).trans q6, (hoff _ (by omega)).trans q7⟩
  · rw [List.mem_singleton] at hm
    subst hm
    exact h.ap.2.2
theorem GK.set {w : World} {base : Nat} {p : PD} {k : KD} {kb : Nat} {a : GW} (h : GK w base p k kb a) {r : Nat} {s : St} (hr : k.rooms[r]? = some s) (s' : St) : GK (setSt w a.rb (r * 8) s') base p ⟨k.rooms.set r s', k.lines, k.time⟩ kb a :=
  h.room hr (setSt_touch w (by simp) _ _) (setSt_at (h.rooms r s hr)) (fun i hi => setSt_off hi) (fun i => setSt_frozen _ _ _ _ _)
theorem GK.poke {w : World} {base : Nat} {p : PD} {k : KD} {kb : Nat} {a : GW} (h : GK w base p k kb a) {r c : Nat} {s : St} (hr : k.rooms[r]? = some s) (hc : c ≤ 5) (n : Int) : GK (w.setCell ⟨a.rb, r * 8 + 1 + c, none⟩ (.int .i64 n)) base p ⟨k.rooms.set r (pokeS s c n), k.lines, k.time⟩ kb a :=
  h.room hr (KTouch.set w (by simp) _ _) ((h.rooms r s hr).poke hc n) (fun i hi => setCell_far (by omega)) (fun i => by simp)
/-- A line is another one. -/
theorem GK.line {w w' : World} {base : Nat} {p : PD} {k : KD} {kb : Nat} {a : GW} (h : GK w base p k kb a) (hbw : base ≤ w.heap.size) {i b : Nat} {u u' : Value} {l' : LnD} (hb : a.bs[i]? = some b) (hu : a.us[i]? = some u) (ht : Touch w w' b u u') (hl : Ln w' a.b1 b l'.w.2.2.1 l'.w.2.2.2 l'.xs l'.ls u') :
    GK w' base p ⟨k.rooms, k.lines.set i l', k.time⟩ kb { a with us := a.us.set i u' } ∧ KTouch (a.F kb) w w' ∧ ∀ g ∈ GW.F kb { a with us := a.us.set i u' }, g ∈ a.F kb ∨ w.heap.size ≤ g := by
  obtain ⟨h1, h2, h3⟩ := h.lines.set hb hu ht hl
  have hsub : ∀ m ∈ b :: (a.us.filterMap Value.ownBlock), m ∈ DF a.lr a.bs a.us := fun m hm => by
    unfold DF
    simp only [List.mem_cons, List.mem_append] at hm ⊢
    rcases hm with e | e
    · subst e
      exact Or.inr (Or.inl (List.mem_of_getElem? hb))
    · exact Or.inr (Or.inr e)
  have hk : kb ∉ b :: (a.us.filterMap Value.ownBlock) := fun hm => h.ap.2.1 (hsub _ hm)
  have hr : a.rb ∉ b :: (a.us.filterMap Value.ownBlock) := fun hm => h.ap.2.2 (hsub _ hm)
  have b1 := h2.block kb h.lt.1 hk
  have b2 := h2.block a.rb h.lt.2.1 hr
  have hc := fun o => World.cell?_of_block (w := w) (w' := w') (a := ⟨kb, o, none⟩) b1
  have hf := fun o => World.frozen?_of_block (w := w) (w' := w') (a := ⟨kb, o, none⟩) b1
  have hrf := fun o => World.frozen?_of_block (w := w) (w' := w') (a := ⟨a.rb, o, none⟩) b2
  have hs := h2.size
  have hnew : ∀ g ∈ GW.F kb { a with us := a.us.set i u' }, g ∈ a.F kb ∨ w.heap.size ≤ g := fun g hg => by
    unfold GW.F at hg ⊢
    simp only [List.mem_cons, List.mem_append] at hg ⊢
    rcases hg with e | e | e | e
    · exact Or.inl (Or.inl e)
    · exact Or.inl (Or.inr (Or.inl e))
    · exact Or.inl (Or.inr (Or.inr (Or.inl e)))
    · rcases h3 g e with e | e
      · exact Or.inl (Or.inr (Or.inr (Or.inr e)))
      · exact Or.inr e
  refine ⟨⟨(hc 0).trans h.c0, (hc 1).trans h.c1, (hc 2).trans h.c2, (hc 3).trans h.c3, (hc 4).trans h.c4, (hc 5).trans h.c5, (hf 5).trans h.f5, (hf 2).trans h.f2, h.src.kept hs (fun g hg => h2.block g (h.lt.2.2 g hg) (fun hm => h.ap0.2.2 g hg (hsub g hm))), fun j s hs => (h.rooms j s hs).block b2, fun o => (hrf o).trans (h.rf o), h1, fun g hg => ?_, ⟨by have := h.lt.1; omega, by have := h.lt.2.1; show a.rb < _; omega, fun g hg => by have := h.lt.2.2 g hg; omega⟩, ⟨h.ap.1, fun hm => ?_, fun hm => ?_⟩, ⟨h.ap0.1, h.ap0.2.1, fun g hg hm => ?_⟩⟩, h2.mono (fun m hm => by simp [GW.F, hsub m hm]), hnew⟩
  · rcases hnew g hg with e | e
    · exact h.ge g e
    · omega
  · rcases h3 kb hm with e | e
    · exact h.ap.2.1 e
    · have := h.lt.1
      omega
  · rcases h3 a.rb hm with e | e
    · exact h.ap.2.2 e
    · have := h.lt.2.1
      omega
  · rcases h3 g hm with e | e
    · exact h.ap0.2.2 g hg e
    · have := h.lt.2.2 g hg
      omega
end Go.Proofs.YtajfgmlockjmhadGreatDoor
namespace Go.Proofs.YtajfgmlockjmhadGreatDoor
open Go.RowKit

/-- The kernel's block. -/
def GB (W : World) (b : Nat) (cv : Value) (t : Int) (sv rv lv : Value) : Prop := W.heap[b]? = some (.cells #[cv, .int .i64 t, sv, rv, lv, .int .i64 0] 87 (0, 0))
theorem GB.cs {W : World} {b : Nat} {cv sv rv lv : Value} {t : Int} (h : GB W b cv t sv rv lv) : W.cell? ⟨b, 0, none⟩ = some cv ∧ W.cell? ⟨b, 1, none⟩ = some (.int .i64 t) ∧ W.cell? ⟨b, 2, none⟩ = some sv ∧ W.cell? ⟨b, 3, none⟩ = some rv ∧ W.cell? ⟨b, 4, none⟩ = some lv ∧ W.cell? ⟨b, 5, none⟩ = some (.int .i64 0) := by
  have e : W.heap[b]? = _ := h
  simp [World.cell?, e]
theorem GB.free {W : World} {b : Nat} {cv sv rv lv : Value} {t : Int} (h : GB W b cv t sv rv lv) (o : Nat) : W.frozen? ⟨b, o, none⟩ = false := by
  have e : W.heap[b]? = _ := h
  simp [World.frozen?, e]
theorem GB.code {W : World} {b : Nat} {cv sv rv lv : Value} {t : Int} (h : GB W b cv t sv rv lv) (v : Value) : GB (W.setCell ⟨b, 0, none⟩ v) b v t sv rv lv := by
  have e : W.heap[b]? = _ := h
  unfold GB
  simp [World.setCell, Array.getElem?_modify, e]
theorem GB.rooms {W : World} {b : Nat} {cv sv rv lv : Value} {t : Int} (h : GB W b cv t sv rv lv) (v : Value) : GB (W.setCell ⟨b, 3, none⟩ v) b cv t sv v lv := by
  have e : W.heap[b]? = _ := h
  unfold GB
  simp [World.setCell, Array.getElem?_modify, e]
theorem GB.lines {W : World} {b : Nat} {cv sv rv lv : Value} {t : Int} (h : GB W b cv t sv rv lv) (v : Value) : GB (W.setCell ⟨b, 4, none⟩ v) b cv t sv rv v := by
  have e : W.heap[b]? = _ := h
  unfold GB
  simp [World.setCell, Array.getElem?_modify, e]
/-- A row has grown: what was there ahead, but one block, is as it was. -/
theorem KTouch.grow {M : List Nat} {W0 W w2 wa : World} {row : Option Nat} (h : KTouch M W0 W) (hb : Below W.heap.size W w2) (hg : w2.grownBy wa row) (hr : ∀ k, row = some k → W0.heap.size ≤ k) : KTouch M W0 wa :=
  ⟨hg.os.trans (hb.os.trans h.os), hg.tape.trans (hb.tape.trans h.tape), hg.output.trans (hb.output.trans h.output), Nat.le_trans h.size (Nat.le_trans hb.size hg.size), fun k hk hm => by
    have h1 := h.size
    have h2 := hb.size
    exact (hg.block k (by omega) (fun e => by have := hr k e.symm; omega)).trans ((hb.block k (by omega)).trans (h.block k hk hm))⟩
/-- Rooms are being made: code and states so far. -/
structure N1 (W0 W : World) (kb : Nat) (p : PD) (sv cv rv : Value) (us : List Value) (m : Nat) : Prop where
  tk : KTouch [kb] W0 W
  kl : kb < W0.heap.size
  blk : GB W kb cv p.ticks sv rv (.slice none 0 0)
  code : W.ownsRow W0.heap.size 81 1 cv us.length us
  rows : ∀ (i : Nat) u c, us[i]? = some u → p.code[i]? = some c → W.ownsRow W0.heap.size 90 3 u c.length (spCells c)
  rooms : W.ownsRow W0.heap.size 46 8 rv m (stCells (List.replicate m stNew))
  len : us.length ≤ p.code.length
theorem N1.first {W0 : World} {kb : Nat} {p : PD} {sv : Value} (hk : kb < W0.heap.size) (h : GB W0 kb (.slice none 0 0) p.ticks sv (.slice none 0 0) (.slice none 0 0)) : N1 W0 W0 kb p sv (.slice none 0 0) (.slice none 0 0) [] 0 :=
  ⟨KTouch.refl _ _, hk, h, World.ownsRow_nil _ _ _ _, fun i u c hi => (by simp at hi), World.ownsRow_nil _ _ _ _, Nat.zero_le _⟩
/-- One code more. -/
theorem N1.more {W0 W w1 wa : World} {kb m : Nat} {p : PD} {sv cv cv' rv u : Value} {us : List Value} {c : List O3} (h : N1 W0 W kb p sv cv rv us m) (hc : p.code[us.length]? = some c) (b1 : Below W.heap.size W w1) (hu : w1.ownsRow W.heap.size 90 3 u c.length (spCells c))
    (hg : (w1.alloc (.cells #[u] 81)).grownBy wa cv.ownBlock) (hown : wa.ownsRow W0.heap.size 81 1 cv' (us.length + 1) (us ++ [u])) : N1 W0 (wa.setCell ⟨kb, 0, none⟩ cv') kb p sv cv' rv (us ++ [u]) m := by
  have b2 : Below W.heap.size W (w1.alloc (.cells #[u] 81)) := b1.alloc b1.size _
  have hs := h.tk.size
  have hcr : ∀ k, cv.ownBlock = some k → W0.heap.size ≤ k := fun k hk => (h.code.lt k hk).1
  have code2 := own_below h.code b2 (Nat.le_refl _)
  have hset : ∀ {e : TypeId} {size : Nat} {v : Value} {n : Nat} {xs : List Value}, wa.ownsRow W0.heap.size e size v n xs → (wa.setCell ⟨kb, 0, none⟩ cv').ownsRow W0.heap.size e size v n xs := fun hx => ownsRow_setCell_below hx (a := ⟨kb, 0, none⟩) h.kl cv'
  refine ⟨(h.tk.grow b2 hg hcr).trans (KTouch.set _ (by simp) 0 _), h.kl, GB.code (cv := cv) ?_ cv', ?_, fun i x d hx hd => ?_, ?_, ?_⟩
  · have hlt : kb < W.heap.size := Nat.lt_of_lt_of_le h.kl hs
    have h1 := b2.size
    exact (hg.block kb (by omega) (fun e => by have := hcr kb e.symm; have := h.kl; omega)).trans ((b2.block kb hlt).trans h.blk)
  · rw [List.length_append]
    exact hset hown
  · by_cases hi : i < us.length
    · rw [List.getElem?_append_left hi] at hx
      have r2 := own_below (h.rows i x d hx hd) b2 (Nat.le_refl _)
      exact hset (r2.kept hg (own_apart (by decide) r2 code2))
    · have hlt := (List.getElem?_eq_some_iff.1 hx).1
      rw [List.length_append, List.length_singleton] at hlt
      obtain rfl : i = us.length := by omega
      rw [List.getElem?_append_right (Nat.le_refl _), Nat.sub_self] at hx
      simp only [List.getElem?_cons_zero, Option.some.injEq] at hx
      subst hx
      rw [hc] at hd
      obtain rfl := Option.some.inj hd
      have r2 := own_base (own_below hu ((Below.refl _ w1).alloc (Nat.le_refl _) (.cells #[u] 81)) (Nat.le_refl _)) hs
      exact hset (r2.kept hg (own_apart (by decide) r2 code2))
  · have r2 := own_below h.rooms b2 (Nat.le_refl _)
    exact hset (r2.kept hg (own_apart (by decide) r2 code2))
  · rw [List.length_append, List.length_singleton]
    exact (List.getElem?_eq_some_iff.1 hc).1
/-- One state more. -/
theorem N1.room {W0 W w1 wa : World} {kb m : Nat} {p : PD} {sv cv rv rv' : Value} {us : List Value} (h : N1 W0 W kb p sv cv rv us m) (b1 : Below W.heap.size W w1)
    (hg : (w1.alloc (.cells #[.int .i64 0, .int .i64 0, .int .i64 0, .int .i64 0, .int .i64 0, .int .i64 0, .int .i64 0, .bool false] 46)).grownBy wa rv.ownBlock) (hown : wa.ownsRow W0.heap.size 46 8 rv' (m + 1) (stCells (List.replicate m stNew) ++ [.int .i64 0, .int .i64 0, .int .i64 0, .int .i64 0, .int .i64 0, .int .i64 0, .int .i64 0, .bool false])) : N1 W0 (wa.setCell ⟨kb, 3, none⟩ rv') kb p sv cv rv' us (m + 1) := by
  have b2 : Below W.heap.size W (w1.alloc (.cells #[.int .i64 0, .int .i64 0, .int .i64 0, .int .i64 0, .int .i64 0, .int .i64 0, .int .i64 0, .bool false] 46)) := b1.alloc b1.size _
  have hs := h.tk.size
  have hcr : ∀ k, rv.ownBlock = some k → W0.heap.size ≤ k := fun k hk => (h.rooms.lt k hk).1
  have room2 := own_below h.rooms b2 (Nat.le_refl _)
  have hset : ∀ {e : TypeId} {size : Nat} {v : Value} {n : Nat} {xs : List Value}, wa.ownsRow W0.heap.size e size v n xs → (wa.setCell ⟨kb, 3, none⟩ rv').ownsRow W0.heap.size e size v n xs := fun hx => ownsRow_setCell_below hx (a := ⟨kb, 3, none⟩) h.kl rv'
  refine ⟨(h.tk.grow b2 hg hcr).trans (KTouch.set _ (by simp) 3 _), h.kl, GB.rooms (rv := rv) ?_ rv', ?_, fun i x d hx hd => ?_, ?_, h.len⟩
  · have hlt : kb < W.heap.size := Nat.lt_of_lt_of_le h.kl hs
    have h1 := b2.size
    exact (hg.block kb (by omega) (fun e => by have := hcr kb e.symm; have := h.kl; omega)).trans ((b2.block kb hlt).trans h.blk)
  · have r2 := own_below h.code b2 (Nat.le_refl _)
    exact hset (r2.kept hg (own_apart (by decide) r2 room2))
  · have r2 := own_below (h.rows i x d hx hd) b2 (Nat.le_refl _)
    exact hset (r2.kept hg (own_apart (by decide) r2 room2))
  · rw [List.replicate_succ', stCells_snoc]
    exact hset hown
/-- A pointer to a line. -/
def glP (b : Nat) : Value := .pointer (some ⟨b, 0, none⟩)
theorem infoGL : (Tryz.prog.info? 92).map (fun i => (i.zero, i.size, i.bytes)) = some (some (.pointer none), 1, 8) := by kernel_rfl
/-- Lines are being made. -/
structure N2 (W1 W : World) (kb : Nat) (p : PD) (cv sv rv lv : Value) (bs : List Nat) : Prop where
  tk : KTouch [kb] W1 W
  kl : kb < W1.heap.size
  blk : GB W kb cv p.ticks sv rv lv
  row : W.ownsRow W1.heap.size 92 1 lv bs.length (bs.map glP)
  line : ∀ (i : Nat) b x, bs[i]? = some b → p.wires[i]? = some x → LnC W b x.2.2.1 x.2.2.2 0 (.slice none 0 0)
  ge : ∀ b ∈ bs, W1.heap.size ≤ b ∧ b < W.heap.size
  ne : ∀ b ∈ bs, lv.ownBlock ≠ some b
  two : ∀ (i j : Nat) b b', i < j → bs[i]? = some b → bs[j]? = some b' → b < b'
  len : bs.length ≤ p.wires.length
theorem N2.first {W1 : World} {kb : Nat} {p : PD} {cv sv rv : Value} (hk : kb < W1.heap.size) (h : GB W1 kb cv p.ticks sv rv (.slice none 0 0)) : N2 W1 W1 kb p cv sv rv (.slice none 0 0) [] :=
  ⟨KTouch.refl _ _, hk, h, World.ownsRow_nil _ _ _ _, fun i b x hi => (by simp at hi), fun b hb => (by cases hb), fun b hb => (by cases hb), fun i j b b' _ hi => (by simp at hi), Nat.zero_le _⟩
/-- One line more. -/
theorem N2.more {W1 W w1 wa : World} {kb b : Nat} {p : PD} {cv sv rv lv lv' : Value} {bs : List Nat} {x : W4} (h : N2 W1 W kb p cv sv rv lv bs) (hx : p.wires[bs.length]? = some x) (b1 : Below W.heap.size W w1) (hb : W.heap.size ≤ b ∧ b < w1.heap.size) (hl : LnC w1 b x.2.2.1 x.2.2.2 0 (.slice none 0 0))
    (hg : (w1.alloc (.cells #[glP b] 92)).grownBy wa lv.ownBlock) (hown : wa.ownsRow W1.heap.size 92 1 lv' (bs.length + 1) (bs.map glP ++ [glP b])) (hnew : ∀ k, lv'.ownBlock = some k → lv.ownBlock = some k ∨ w1.heap.size + 1 ≤ k) : N2 W1 (wa.setCell ⟨kb, 4, none⟩ lv') kb p cv sv rv lv' (bs ++ [b]) := by
  have b2 : Below W.heap.size W (w1.alloc (.cells #[glP b] 92)) := b1.alloc b1.size _
  have hs := h.tk.size
  have hcr : ∀ k, lv.ownBlock = some k → W1.heap.size ≤ k ∧ k < W.heap.size := fun k hk => h.row.lt k hk
  have hsz : (w1.alloc (.cells #[glP b] 92)).heap.size = w1.heap.size + 1 := by simp
  have hwa := hg.size
  rw [hsz] at hwa
  have h1s := b1.size
  have hset : ∀ k, k ≠ kb → (wa.setCell ⟨kb, 4, none⟩ lv').heap[k]? = wa.heap[k]? := fun k hk => Below.heap_setCell _ _ _ _ hk
  have hsz2 : (wa.setCell ⟨kb, 4, none⟩ lv').heap.size = wa.heap.size := by simp
  have hkb := h.kl
  have hold : ∀ k, k < W.heap.size → k ≠ kb → lv.ownBlock ≠ some k → (wa.setCell ⟨kb, 4, none⟩ lv').heap[k]? = W.heap[k]? := fun k h2 h3 h4 => (hset k h3).trans ((hg.block k (by rw [hsz]; omega) (fun e => h4 e.symm)).trans (b2.block k h2))
  refine ⟨(h.tk.grow b2 hg (fun k hk => (hcr k hk).1)).trans (KTouch.set _ (by simp) 4 _), h.kl, GB.lines (lv := lv) ?_ lv', ?_, fun i c y hi hy => ?_, fun c hc => ?_, fun c hc => ?_, fun i j c c' hij hi hj => ?_, ?_⟩
  · have hlt : kb < W.heap.size := Nat.lt_of_lt_of_le h.kl hs
    exact (hg.block kb (by rw [hsz]; omega) (fun e => by have := (hcr kb e.symm).1; omega)).trans ((b2.block kb hlt).trans h.blk)
  · rw [List.map_append, List.length_append]
    exact ownsRow_setCell_below hown (a := ⟨kb, 4, none⟩) h.kl lv'
  · by_cases hil : i < bs.length
    · rw [List.getElem?_append_left hil] at hi
      have hm := List.mem_of_getElem? hi
      have hge := h.ge c hm
      exact (h.line i c y hi hy).block (hold c hge.2 (by omega) (h.ne c hm))
    · have hlt := (List.getElem?_eq_some_iff.1 hi).1
      rw [List.length_append, List.length_singleton] at hlt
      obtain rfl : i = bs.length := by omega
      rw [List.getElem?_append_right (Nat.le_refl _), Nat.sub_self] at hi
      simp only [List.getElem?_cons_zero, Option.some.injEq] at hi
      subst hi
      rw [hx] at hy
      obtain rfl := Option.some.inj hy
      refine hl.block ((hset b (by omega)).trans ((hg.block b (by rw [hsz]; omega) (fun e => by have := (hcr b e.symm).2; omega)).trans ?_))
      exact Below.heap_alloc _ _ _ hb.2
  · rcases List.mem_append.1 hc with hc | hc
    · have := h.ge c hc
      rw [hsz2]
      omega
    · rw [List.mem_singleton] at hc
      subst hc
      rw [hsz2]
      omega
  · intro e
    rcases List.mem_append.1 hc with hc | hc
    · have hge := h.ge c hc
      rcases hnew c e with h2 | h2
      · exact h.ne c hc h2
      · omega
    · rw [List.mem_singleton] at hc
      subst hc
      rcases hnew c e with h2 | h2
      · have := (hcr c h2).2
        omega
      · omega
  · by_cases hjl : j < bs.length
    · rw [List.getElem?_append_left hjl] at hj
      rw [List.getElem?_append_left (by omega)] at hi
      exact h.two i j c c' hij hi hj
    · have hlt := (List.getElem?_eq_some_iff.1 hj).1
      rw [List.length_append, List.length_singleton] at hlt
      obtain rfl : j = bs.length := by omega
      rw [List.getElem?_append_right (Nat.le_refl _), Nat.sub_self] at hj
      simp only [List.getElem?_cons_zero, Option.some.injEq] at hj
      subst hj
      rw [List.getElem?_append_left (by omega)] at hi
      have := h.ge c (List.mem_of_getElem? hi)
      omega
  · rw [List.length_append, List.length_singleton]
    exact (List.getElem?_eq_some_iff.1 hx).1
/-- Code in rows of its own can be read. -/
theorem gcds_own {w : World} {base : Nat} {cv : Value} {us : List Value} {cs : List (List O3)} (h : w.ownsRow base 81 1 cv us.length us) (hl : us.length = cs.length) (hr : ∀ (i : Nat) u c, us[i]? = some u → cs[i]? = some c → Ops w u c) : Cds w cv cs := by
  have hlt := h.lt
  have hcs := @World.ownsRow.cells _ _ _ _ _ _ _ h
  rcases h.2 with ⟨rfl, h0⟩ | ⟨g, cap, cur, rfl, _, _, hcap, _⟩
  · exact Or.inl ⟨List.eq_nil_of_length_eq_zero (by omega), _, _, rfl⟩
  · refine Or.inr ⟨g, 0, cap, by rw [hl], by omega, (hlt g rfl).2, fun i c hi => ?_⟩
    have hil : i < us.length := by rw [hl]; exact (List.getElem?_eq_some_iff.1 hi).1
    have hu : us[i]? = some us[i] := List.getElem?_eq_getElem hil
    have := hcs rfl i _ hu
    rw [Addr.add_lit] at this
    exact ⟨_, this, hr i _ c hu hi⟩
theorem ofOwn {v : Value} {g : Nat} (h : g ∈ v.ownBlock.toList) : v.ownBlock = some g := by simpa using h
/-- All is there: a kernel. -/
theorem N2.done {w W0 W1 W : World} {kb : Nat} {p : PD} {cv sv rv lv : Value} {us : List Value} {bs : List Nat} (hw0 : w.heap.size + 1 ≤ kb) (hsp : W0.ownsRow (w.heap.size + 1) 79 3 sv p.spans.length (spCells p.spans)) (hspk : ∀ g, sv.ownBlock = some g → g ≠ kb)
    (h1 : N1 W0 W1 kb p sv cv rv us us.length) (h2 : N2 W1 W kb p cv sv rv lv bs) (hp : plchk p = 0) (hul : us.length = p.code.length) (hbl : bs.length = p.wires.length) : ∃ a : GW, GK W w.heap.size p (newK p) kb a := by
  obtain ⟨c0, c1, c2, c3, c4, c5⟩ := h2.blk.cs
  have hne0 := (plchk_zero hp).2.1
  have hk0 := h1.kl
  have hs1 := h1.tk.size
  have hs2 := h2.tk.size
  obtain ⟨rb, rcap, cur, rfl, hrb0, hrb1, hrb2, hrb3, hrb4, hrb5⟩ : ∃ g cap cur, rv = .slice (some ⟨g, 0, none⟩) us.length cap ∧ W0.heap.size ≤ g ∧ W1.heap[g]? = some (.cells cur 46 (0, 0)) ∧ us.length ≤ cap ∧ cap ≤ maxLen ∧ cur.size = cap * 8 ∧ cur.toList.take (us.length * 8) = stCells (List.replicate us.length stNew) := by
    rcases h1.rooms.2 with ⟨_, h0⟩ | hq
    · omega
    · exact hq
  have hrlt := (h1.rooms.lt rb rfl).2
  have hkeep : ∀ k, k < W1.heap.size → k ≠ kb → W.heap[k]? = W1.heap[k]? := fun k h3 h4 => h2.tk.block k h3 (by simpa using h4)
  have hsp1 : W1.ownsRow (w.heap.size + 1) 79 3 sv p.spans.length (spCells p.spans) := own_block hsp (fun k hk => h1.tk.block k (hsp.lt k hk).2 (by simpa using hspk k hk))
  have hspW : W.ownsRow (w.heap.size + 1) 79 3 sv p.spans.length (spCells p.spans) := own_block hsp1 (fun k hk => hkeep k (hsp1.lt k hk).2 (hspk k hk))
  have hcW : W.ownsRow W0.heap.size 81 1 cv us.length us := own_block h1.code (fun k hk => hkeep k (h1.code.lt k hk).2 (by have := (h1.code.lt k hk).1; omega))
  have hrW : ∀ (i : Nat) u c, us[i]? = some u → p.code[i]? = some c → W.ownsRow W0.heap.size 90 3 u c.length (spCells c) := fun i u c hu hc => own_block (h1.rows i u c hu hc) (fun k hk => hkeep k ((h1.rows i u c hu hc).lt k hk).2 (by have := ((h1.rows i u c hu hc).lt k hk).1; omega))
  have hsW : W.ownsRow W0.heap.size 46 8 (.slice (some ⟨rb, 0, none⟩) us.length rcap) us.length (stCells (List.replicate us.length stNew)) := own_block h1.rooms (fun k hk => hkeep k (h1.rooms.lt k hk).2 (by have := (h1.rooms.lt k hk).1; omega))
  have hat : ∀ (i : Nat) u, us[i]? = some u → ∃ c, p.code[i]? = some c := fun i u hu => ⟨_, List.getElem?_eq_getElem (by rw [← hul]; exact (List.getElem?_eq_some_iff.1 hu).1)⟩
  have hF0 : ∀ g ∈ sv.ownBlock.toList ++ (cv.ownBlock.toList ++ us.filterMap Value.ownBlock), w.heap.size + 1 ≤ g ∧ g < W1.heap.size ∧ g ≠ kb ∧ g ≠ rb := fun g hg => by
    rcases List.mem_append.1 hg with hg | hg
    · have e := ofOwn hg
      have hl := hsp.lt g e
      have hl1 := hsp1.lt g e
      exact ⟨hl.1, hl1.2, hspk g e, fun e2 => by have := hl.2; omega⟩
    · rcases List.mem_append.1 hg with hg | hg
      · have e := ofOwn hg
        have hl := h1.code.lt g e
        refine ⟨by omega, hl.2, by omega, fun e2 => ?_⟩
        rcases own_apart (by decide) h1.code h1.rooms with h3 | h3
        · rw [h3] at e; cases e
        · exact h3 (by rw [e, e2]; rfl)
      · obtain ⟨u, hu, e⟩ := List.mem_filterMap.1 hg
        obtain ⟨i, hi⟩ := List.mem_iff_getElem?.1 hu
        obtain ⟨c, hc⟩ := hat i u hi
        have hr := h1.rows i u c hi hc
        have hl := hr.lt g e
        refine ⟨by omega, hl.2, by omega, fun e2 => ?_⟩
        rcases own_apart (by decide) hr h1.rooms with h3 | h3
        · rw [h3] at e; cases e
        · exact h3 (by rw [e, e2]; rfl)
  have hlv : (p.wires = [] ∧ lv = .slice none 0 0) ∨ ∃ g cap, lv = .slice (some ⟨g, 0, none⟩) p.wires.length cap ∧ p.wires.length ≤ cap ∧ W1.heap.size ≤ g ∧ g < W.heap.size ∧ (∀ (i : Nat) b, bs[i]? = some b → W.cell? ⟨g, i, none⟩ = some (glP b)) := by
    rcases h2.row.2 with ⟨h3, h4⟩ | ⟨g, cap, cur, h3, h4, h5, h6, h7, h8, h9⟩
    · exact Or.inl ⟨List.length_eq_zero_iff.1 (by omega), h3⟩
    · refine Or.inr ⟨g, cap, by rw [h3, hbl], by omega, h4, (Array.getElem?_eq_some_iff.1 h5).1, fun i b hi => ?_⟩
      have := h2.row
      rw [h3] at this
      exact (own_cap this).2.2.2.2.1 i _ (by simp [hi])
  obtain ⟨lr, hl1, hl2, hl3, hl4, hl5⟩ : ∃ lr, ((p.wires = [] ∧ lv = .slice none 0 0) ∨ ∃ cap, lv = .slice (some ⟨lr, 0, none⟩) p.wires.length cap ∧ p.wires.length ≤ cap) ∧ (∀ (i : Nat) b, bs[i]? = some b → W.cell? ⟨lr, i, none⟩ = some (glP b)) ∧ lr < W.heap.size ∧ (∀ b ∈ bs, b ≠ lr) ∧ (lr = w.heap.size ∨ W1.heap.size ≤ lr) := by
    rcases hlv with ⟨h3, h4⟩ | ⟨g, cap, h3, h4, h5, h6, h7⟩
    · have hb0 : bs = [] := List.length_eq_zero_iff.1 (by rw [hbl, h3]; rfl)
      subst hb0
      exact ⟨w.heap.size, Or.inl ⟨h3, h4⟩, fun i b hi => (by simp at hi), (by omega), fun b hb => (by cases hb), Or.inl rfl⟩
    · exact ⟨g, Or.inr ⟨cap, h3, h4⟩, h7, h6, fun b hb e => h2.ne b hb (by rw [h3, e]; rfl), Or.inr h5⟩
  have hdf : ∀ g ∈ DF lr bs (bs.map fun _ => Value.slice none 0 0), g = w.heap.size ∨ W1.heap.size ≤ g := fun g hg => by
    unfold DF at hg
    rcases List.mem_cons.1 hg with e | e
    · rw [e]; exact hl5
    · rcases List.mem_append.1 e with e | e
      · exact Or.inr (h2.ge g e).1
      · obtain ⟨u, hu, e2⟩ := List.mem_filterMap.1 e
        obtain ⟨_, _, rfl⟩ := List.mem_map.1 hu
        simp [Value.ownBlock] at e2
  have hdg : ∀ g ∈ DF lr bs (bs.map fun _ => Value.slice none 0 0), w.heap.size ≤ g := fun g hg => by
    rcases hdf g hg with e | e <;> omega
  refine ⟨⟨cv, sv, sv.ownBlock.toList ++ (cv.ownBlock.toList ++ us.filterMap Value.ownBlock), rb, rcap, lv, lr, W.heap.size, bs, bs.map fun _ => .slice none 0 0⟩, c0, c1, c2, ?_, c4, c5, h2.blk.free 5, h2.blk.free 2, fun w' hs hb => ⟨?_, ?_⟩, fun i s hs => ?_, fun o => ?_, ⟨?_, fun i b hi => hl2 i b hi, by simpa [newK] using hbl, by simpa [newK] using hbl, fun i l b u h3 h4 h5 => ?_, ⟨hl3, fun b hb => (h2.ge b hb).2⟩, Nat.le_refl _, hl4, fun i j b b' hij hi hj => Nat.ne_of_lt (h2.two i j b b' hij hi hj), fun i j u u' _ hi _ g hg => ?_⟩, fun g hg => ?_, ⟨?_, ?_, fun g hg => ?_⟩, ⟨?_, fun hm => ?_, fun hm => ?_⟩, ⟨fun hm => (hF0 kb hm).2.2.1 rfl, fun hm => (hF0 rb hm).2.2.2 rfl, fun g hg hm => ?_⟩⟩
  · simp only [newK, List.length_map]
    rw [← hul]
    exact c3
  · exact gcds_own (own_block hcW (fun k hk => hb k (by simp [hk]))) hul (fun i u c hu hc => gops_own (own_block (hrW i u c hu hc) (fun k hk => hb k (List.mem_append_right _ (List.mem_append_right _ (List.mem_filterMap.2 ⟨u, List.mem_of_getElem? hu, hk⟩))))))
  · exact sps_of_own (own_block hspW (fun k hk => hb k (by simp [hk])))
  · have hlt := (List.getElem?_eq_some_iff.1 hs).1
    simp only [newK, List.length_map] at hlt
    simp only [newK, List.getElem?_map, List.getElem?_eq_getElem hlt, Option.map_some, Option.some.injEq] at hs
    subst hs
    have hcs : ∀ j u, (stCells (List.replicate us.length stNew))[j]? = some u → W.cell? ⟨rb, j, none⟩ = some u := fun j u hu => by
      have := hsW.cells (g := rb) rfl j u hu
      rwa [Addr.add_lit, Nat.zero_add] at this
    obtain ⟨q0, q1, q2, q3, q4, q5, q6, q7⟩ := stCells_at (List.replicate us.length stNew) i stNew (by rw [List.getElem?_replicate, if_pos (by omega)])
    exact ⟨hcs _ _ q0, hcs _ _ q1, hcs _ _ q2, hcs _ _ q3, hcs _ _ q4, hcs _ _ q5, hcs _ _ q6, hcs _ _ q7⟩
  · have e : W.heap[rb]? = _ := (hkeep rb hrlt (by omega)).trans hrb1
    simp [World.frozen?, e]
  · rcases hl1 with ⟨h3, h4⟩ | ⟨cap, h3, h4⟩
    · exact Or.inl ⟨by simp [newK, h3], h4⟩
    · exact Or.inr ⟨cap, by simpa [newK] using h3, by simpa [newK] using h4⟩
  · simp only [newK, List.getElem?_map, Option.map_eq_some_iff] at h3
    obtain ⟨x, hx, rfl⟩ := h3
    simp only [List.getElem?_map, Option.map_eq_some_iff] at h5
    obtain ⟨_, _, rfl⟩ := h5
    exact ⟨h2.line i b x h4 hx, World.ownsRow_nil _ _ _ _, (h2.ge b (List.mem_of_getElem? h4)).2, Nat.le_refl _⟩
  · simp only [List.getElem?_map, Option.map_eq_some_iff] at hi
    obtain ⟨_, _, rfl⟩ := hi
    simp [Value.ownBlock] at hg
  · unfold GW.F at hg
    simp only [List.mem_cons] at hg
    rcases hg with e | e | e
    · omega
    · omega
    · rcases List.mem_append.1 e with e | e
      · have := (hF0 g e).1
        omega
      · exact hdg g e
  · omega
  · show rb < W.heap.size
    omega
  · have := (hF0 g hg).2.1
    omega
  · show kb ≠ rb
    omega
  · rcases hdf kb hm with e | e <;> omega
  · rcases hdf rb hm with e | e <;> omega
  · have h3 := hF0 g hg
    rcases hdf g hm with e | e <;> omega
end Go.Proofs.YtajfgmlockjmhadGreatDoor
namespace Go.Proofs.YtajfgmlockjmhadGreatDoor
open Go.RowKit

def woutB (n : Int) : Bool := decide (n < 0) || decide (999 < n)
set_option maxRecDepth 100000 in
set_option maxHeartbeats 1000000 in
theorem wout_yes (n : Int) (w : World) (h : n < 0 ∨ 1000 ≤ n) : Calls Tryz.prog 97 #[.int .i64 n] w fun e w' => e = .returned (.bool true) ∧ w' = w := by
  by_cases h0 : n < 0
  · clear h
    go_enter Tryz.func97, Tryz.ntmps97
    go_wp2
    go_ret
    exact ⟨rfl, rfl⟩
  · have h0' : decide (n < 0) = false := by simpa using h0
    have h1 : 1000 ≤ n := by omega
    clear h
    go_enter Tryz.func97, Tryz.ntmps97
    go_wp2
    go_ret
    exact ⟨rfl, rfl⟩
set_option maxRecDepth 100000 in
set_option maxHeartbeats 1000000 in
theorem wout_no (n : Int) (w : World) (h0 : 0 ≤ n) (h1 : n < 1000) : Calls Tryz.prog 97 #[.int .i64 n] w fun e w' => e = .returned (.bool false) ∧ w' = w := by
  have h0' : decide (n < 0) = false := by simpa using h0
  have h1' : decide (1000 ≤ n) = false := by simpa using h1
  go_enter Tryz.func97, Tryz.ntmps97
  go_wp2
  go_ret
  exact ⟨rfl, rfl⟩
theorem wout_any (n : Int) (w : World) : Calls Tryz.prog 97 #[.int .i64 n] w fun e w' => e = .returned (.bool (woutB n)) ∧ w' = w := by
  by_cases h : n < 0 ∨ 1000 ≤ n
  · have e : woutB n = true := by unfold woutB; rw [Bool.or_eq_true]; rcases h with h | h; exact Or.inl (decide_eq_true h); exact Or.inr (decide_eq_true (by omega))
    rw [e]; exact wout_yes n w h
  · have e : woutB n = false := by unfold woutB; rw [Bool.or_eq_false_iff]; exact ⟨decide_eq_false (by omega), decide_eq_false (by omega)⟩
    rw [e]; exact wout_no n w (by omega) (by omega)
end Go.Proofs.YtajfgmlockjmhadGreatDoor
