/-
  PrgC, RowL, FlowOwn, OwnTwo, PgClone, RPurge, PlO, CloneOp, GClone, RdL, PgHas, Law: joined into one text.
-/
import Derived.Test.YtajfgmlockjmhaeDoorJa2
import Derived.Test.YtajfgmlockjmhaeDoorJa1
import Derived.Deep.RegionLaw
import Derived.Deep.RegionWith
import Derived.Lib.SliceRun
import Derived.RangeFuncRecord
import Derived.Deep.CutRange
import Derived.Test.YtajfgmlockjmhaeDoorRows
import Derived.ProofKit
import Derived.LaidMore
import Derived.OpenShut
import Derived.Carry
import Derived.Stop.Joined
namespace Go.Proofs.YtajfgmlockjmhaeDoor
open Go.RowKit

/-- What is wrong where two are held against each other. -/
def likeE (p q : PD) (n r : Int) : Int := if plchk p = 0 then (if plchk q = 0 then (if r < 0 ∨ (p.code.length : Int) ≤ r ∨ (q.code.length : Int) ≤ r ∨ n < 0 ∨ 2000 < n then 1 else 0) else plchk q) else plchk p
/-- The first place at which two rows of states part; -1: none. -/
def partAt : List St → List St → Nat → Int
  | s :: l, t :: m, i => if likeS s t = true then partAt l m (i + 1) else (i : Int)
  | _, _, _ => -1
theorem partAt_same : ∀ (l : List St) (i : Nat), partAt l l i = -1
  | [], _ => rfl
  | s :: l, i => by
    rw [partAt, if_pos (likeS_refl s)]
    exact partAt_same l (i + 1)
def likeAt (p q : PD) (n r : Int) : Int := if likeE p q n r = 0 then partAt (statesK p n.toNat r.toNat) (statesK q n.toNat r.toNat) 0 else 0
def PrgSame (G : World → Prop) : Prop := ∀ (p q : PD) (vc vs vw ic is iw : Value) (n r : Int) (W : World), G W → Pln W vc vs vw p → Pln W ic is iw q → Calls Tryd.prog 11 #[plV vc p.ticks vs vw, plV ic q.ticks is iw, .int .i64 n, .int .i64 r] W fun e w' => e = .returned (.tuple #[.int .i64 (likeAt p q n r), wErr (likeE p q n r)]) ∧ Below W.heap.size W w'
/-- WHO CANNOT TELL DOES NOT MATTER, as package purge tells it. -/
theorem like_purged {p : PD} {n r : Int} (hz : prgE p r = 0) (hn : 0 ≤ n) (hn2 : n ≤ 400) : likeE p (prgP p r) n r = 0 ∧ likeAt p (prgP p r) n r = -1 ∧ plchk (prgP p r) = 0 := by
  have hq : prgP p r = purgeP p (fun i => way p.wires i r.toNat) := by
    unfold prgP
    rw [if_pos hz]
  have hpp : plchk p = 0 ∧ 0 ≤ r ∧ r < (p.code.length : Int) := by
    unfold prgE at hz
    split at hz
    · rename_i h1
      split at hz
      · omega
      · exact ⟨h1, by omega, by omega⟩
    · omega
  have hr := purge_right (fun i => way p.wires i r.toNat) hpp.1
  have he : likeE p (prgP p r) n r = 0 := by
    have hl : ((prgP p r).code.length : Int) = p.code.length := by
      rw [hq]
      show ((purgeC _ 0 p.code).length : Int) = _
      rw [purgeC_len]
    unfold likeE
    rw [if_pos hpp.1, hl, hq, if_pos hr, if_neg (by omega)]
  refine ⟨he, ?_, by rw [hq]; exact hr⟩
  unfold likeAt
  rw [if_pos he, hq, purge_states hpp.1]
  exact partAt_same _ _
end Go.Proofs.YtajfgmlockjmhaeDoor
namespace Go.Proofs.YtajfgmlockjmhaeDoor
open Go.RowKit
/-- Numbers as cells. -/
def ints (xs : List Int) : List Value := xs.map (Value.int .i64)
theorem ints_snoc (xs : List Int) (n : Int) : ints (xs ++ [n]) = ints xs ++ [.int .i64 n] := by simp [ints]
theorem ints_len (xs : List Int) : (ints xs).length = xs.length := by simp [ints]
theorem ints_at {xs : List Int} {i : Nat} {x : Int} (h : xs[i]? = some x) : (ints xs)[i]? = some (.int .i64 x) := by simp [ints, h]
/-- A row is as it was where its block is. -/
theorem own_block {w w' : World} {base : Nat} {e : TypeId} {size : Nat} {v : Value} {n : Nat} {xs : List Value} (h : w.ownsRow base e size v n xs) (hb : ∀ k, v.ownBlock = some k → w'.heap[k]? = w.heap[k]?) : w'.ownsRow base e size v n xs := by
  refine ⟨h.1, ?_⟩
  rcases h.2 with h2 | ⟨g, cap, cur, rfl, h3, h4, r⟩
  · exact Or.inl h2
  · exact Or.inr ⟨g, cap, cur, rfl, h3, (hb g rfl).trans h4, r⟩
theorem own_below {w w' : World} {base B : Nat} {e : TypeId} {size : Nat} {v : Value} {n : Nat} {xs : List Value} (h : w.ownsRow base e size v n xs) (hb : Below B w w') (hB : w.heap.size ≤ B) : w'.ownsRow base e size v n xs :=
  own_block h fun k hk => hb.block k (by have := (h.lt k hk).2; omega)
/-- A row that is cut. -/
theorem own_cut {w : World} {base : Nat} {e : TypeId} {g n cap k : Nat} {xs : List Value} (h : w.ownsRow base e 1 (.slice (some ⟨g, 0, none⟩) n cap) n xs) (hk : k ≤ n) : w.ownsRow base e 1 (.slice (some ⟨g, 0, none⟩) k cap) k (xs.take k) := by
  rcases h.2 with ⟨h2, _⟩ | ⟨g', cap', cur, e0, h3, h4, h5, h6, h7, h8⟩
  · cases h2
  · injection e0 with e1 _ e3
    injection e1 with e1
    injection e1 with e1
    subst e1
    subst e3
    refine ⟨by have := h.1; simp at this ⊢; omega, Or.inr ⟨g, cap, cur, rfl, h3, h4, by omega, h6, h7, ?_⟩⟩
    rw [← h8, List.take_take]
    congr 1
    omega
theorem own_cap {w : World} {base : Nat} {e : TypeId} {g n cap : Nat} {xs : List Value} (h : w.ownsRow base e 1 (.slice (some ⟨g, 0, none⟩) n cap) n xs) : base ≤ g ∧ g < w.heap.size ∧ n ≤ cap ∧ cap ≤ maxLen ∧ (∀ i x, xs[i]? = some x → w.cell? ⟨g, i, none⟩ = some x) ∧ (∀ i, i < cap → (w.cell? ⟨g, i, none⟩).isSome = true) ∧ (∀ i, w.frozen? ⟨g, i, none⟩ = false) := by
  have hl := h.lt g rfl
  rcases h.2 with ⟨h2, _⟩ | ⟨g', cap', cur, e0, h3, h4, h5, h6, h7, h8⟩
  · cases h2
  · injection e0 with e1 _ e3
    injection e1 with e1
    injection e1 with e1
    subst e1
    subst e3
    refine ⟨hl.1, hl.2, h5, h6, fun i x hx => ?_, fun i hi => ?_, fun i => by simp [World.frozen?, h4]⟩
    · have := h.cells (g := g) rfl i x hx
      rwa [Addr.add_lit, Nat.zero_add] at this
    · have hi' : i < cur.size := by omega
      simp [World.cell?, h4, hi']
theorem row_form {w : World} {base : Nat} {e : TypeId} {v : Value} {n : Nat} {xs : List Value} (h : w.ownsRow base e 1 v n xs) : (v = .slice none 0 0 ∧ n = 0) ∨ ∃ g cap, v = .slice (some ⟨g, 0, none⟩) n cap := by
  rcases h.2 with h2 | ⟨g, cap, _, rfl, _⟩
  · exact Or.inl h2
  · exact Or.inr ⟨g, cap, rfl⟩
theorem infoInt : (Tryd.prog.info? 3).map (fun i => (i.zero, i.size, i.bytes)) = some (some (.int .i64 0), 1, 8) := by kernel_rfl

theorem one_new (w : World) (x : Value) (t : TypeId) : ∀ j u, [x][j]? = some u → (w.alloc (.cells #[x] t)).cell? ((⟨w.heap.size, 0, none⟩ : Addr).add j) = some u := by
  intro j u hj
  match j, hj with
  | 0, hj => simp at hj; subst hj; simp [Addr.add]
theorem one_new_at {w : World} {k : Nat} (hk : k = w.heap.size) (x : Value) (t : TypeId) : ∀ j u, [x][j]? = some u → (w.alloc (.cells #[x] t)).cell? ((⟨k, 0, none⟩ : Addr).add j) = some u := by
  subst hk
  exact one_new w x t
theorem one_one (n : Int) : ∀ u ∈ [Value.int .i64 n], u.oneCell' = true := by
  intro u hu
  simp at hu
  subst hu
  rfl
/-- append onto a row that the call owns: where the new row lies. -/
theorem wpList_append_at {P : Program} {ops : Array Oper} {rest : List Oper} {o : Oper} {a : Act} {Q : Exit → Act → World → Prop} (w : World) (hgd : o.guard = none) (s x : Operand) (t : TypeId)
    (ho : o.op = .call { callee := .builtin .append, args := #[s, x], argTypes := #[t, t] })
    (base : Nat) (e : TypeId) (i : TypeInfo) (z : Value) (size bytes : Nat) (ht : P.underlying t = some (.slice e)) (hi : P.info? e = some i) (hz : i.zero = some z)
    (hsize : i.size = size) (hby : i.bytes = bytes) (hzs : z.cells.size = size) (hsz : 0 < size)
    (v : Value) (n : Nat) (xs : List Value) (hs : a.eval s = v) (hown : w.ownsRow base e size v n xs)
    (ad : Addr) (m c : Nat) (news : List Value) (hx : a.eval x = .slice (some ad) m c) (hl : news.length = m * size) (hnews : ∀ j u, news[j]? = some u → w.cell? (ad.add j) = some u) (h1 : ∀ u ∈ news, u.oneCell' = true)
    (h63 : n + m ≤ maxLen) (hbytes : (n + m) * bytes ≤ 140737488355328) (hbase : base ≤ w.heap.size)
    (h : ∀ v' w', w'.ownsRow base e size v' (n + m) (xs ++ news) → w.grownBy w' v.ownBlock → (∀ k, v'.ownBlock = some k → v.ownBlock = some k ∨ w.heap.size ≤ k) → wpList P ops Q rest (a.put o.dst v') w') : wpList P ops Q (o :: rest) a w := by
  obtain ⟨v', w', hr, h2, h3, h4⟩ := run_append_own (P := P) w base t o.type e i z size bytes ht hi hz hsize hby hzs hsz v n xs hown ad m c news hl hnews h1 h63 hbytes hbase
  have hw : ∀ k, v'.ownBlock = some k → v.ownBlock = some k ∨ w.heap.size ≤ k := by
    have h63' : n + m ≤ 9223372036854775807 := by simpa [maxLen] using h63
    subst hsize
    subst hby
    intro k hk
    rcases hown.2 with ⟨rfl, rfl⟩ | ⟨g, cap, cur, rfl, hbg, hg, hnc, hcm, hcs, htake⟩
    · by_cases hm : m = 0
      · rw [h4.2 ⟨rfl, hm⟩] at hk
        cases hk
      · have hr2 := run_append_nil (P := P) w t o.type e i z ht hi hz ad m c news hl hnews (by omega) (by omega) (by have hb := hbytes; simp only [Nat.zero_add] at hb; omega)
        rw [hr] at hr2
        injection hr2 with e1 e2
        subst e1
        simp only [Value.ownBlock, Option.some.injEq] at hk
        right
        omega
    · by_cases hroom : n + m ≤ cap
      · have hfit : n * i.size + news.length ≤ cur.size := by rw [hl, hcs, ← Nat.add_mul]; exact Nat.mul_le_mul_right _ hroom
        have hr2 := run_append_room (P := P) w t o.type e i ht hi g n cap cur hg ad m c news hl hnews h1 hroom hfit
        rw [hr] at hr2
        injection hr2 with e1 e2
        subst e1
        left
        exact hk
      · have holds : ∀ j u, xs[j]? = some u → w.cell? ((⟨g, 0, none⟩ : Addr).add j) = some u := hown.cells (g := g) rfl
        have hr2 := run_append_grow (P := P) w t o.type e i z ht hi hz ⟨g, 0, none⟩ n cap xs hown.1 holds ad m c news hl hnews (by omega) (by omega) (growslice_fits (by omega) hbytes)
        rw [hr] at hr2
        injection hr2 with e1 e2
        subst e1
        simp only [Value.ownBlock, Option.some.injEq] at hk
        right
        omega
  refine wpList_plain hgd fun K hK => ?_
  unfold Oper.wp execOp
  simp only [ho, resolve, invoke, builtin, Sem.run_bind, Sem.run_pure, Result.andThen_ok, List.map_toArray, List.map_cons, List.map_nil, hs, hx, hr]
  exact hK _ _ (h v' w' h2 h3 hw)

theorem append_none (ao : Option Addr) (cap : Nat) (W : World) (ty : TypeId) : (Builtin.append_ #[47, 47] ty #[.slice none 0 0, .slice ao 0 cap]).run Tryd.prog W = .ok (.slice none 0 0) W := by
  obtain ⟨ii, hi, hz0, hz1, hz2⟩ := info_parts infoInt
  cases ao <;> simp [Builtin.append_, run_underlying Tryd.underlying47, sizeOf, typeInfo, hi, Builtin.lenOf, Builtin.firstCells, loadCells, loadCellsFrom]
theorem wpList_append_eq {P : Program} {ops : Array Oper} {rest : List Oper} {o : Oper} {a : Act} {w : World} {Q : Exit → Act → World → Prop} (hgd : o.guard = none) (s x : Operand) (t : TypeId)
    (ho : o.op = .call { callee := .builtin .append, args := #[s, x], argTypes := #[t, t] }) (v1 v2 : Value) (hs : a.eval s = v1) (hx : a.eval x = v2) (v' : Value) (w' : World)
    (hr : (Builtin.append_ #[t, t] o.type #[v1, v2]).run P w = .ok v' w') (h : wpList P ops Q rest (a.put o.dst v') w') : wpList P ops Q (o :: rest) a w := by
  refine wpList_plain hgd fun K hK => ?_
  unfold Oper.wp execOp
  simp only [ho, resolve, invoke, builtin, Sem.run_bind, Sem.run_pure, Result.andThen_ok, List.map_toArray, List.map_cons, List.map_nil, hs, hx, hr]
  exact hK _ _ h
end Go.Proofs.YtajfgmlockjmhaeDoor
namespace Go.Proofs.YtajfgmlockjmhaeDoor
open Go.RowKit

/-- The cells of wires, one behind the other. -/
def wrCells (l : List W4) : List Value := l.flatMap fun o => [.int .i64 o.1, .int .i64 o.2.1, .int .i64 o.2.2.1, .int .i64 o.2.2.2]
theorem wrCells_snoc (l : List W4) (o : W4) : wrCells (l ++ [o]) = wrCells l ++ [.int .i64 o.1, .int .i64 o.2.1, .int .i64 o.2.2.1, .int .i64 o.2.2.2] := by simp [wrCells]
theorem wrCells_len : ∀ (l : List W4), (wrCells l).length = l.length * 4
  | [] => rfl
  | x :: l => by
    have := wrCells_len l
    have e : wrCells (x :: l) = [.int .i64 x.1, .int .i64 x.2.1, .int .i64 x.2.2.1, .int .i64 x.2.2.2] ++ wrCells l := by simp [wrCells]
    rw [e, List.length_append, this]
    simp
    omega
theorem wrCells_one (l : List W4) : ∀ u ∈ wrCells l, u.oneCell' = true := by
  intro u hu
  simp only [wrCells, List.mem_flatMap] at hu
  obtain ⟨o, _, hu⟩ := hu
  simp at hu
  rcases hu with rfl | rfl | rfl | rfl <;> rfl
theorem wrCells_at : ∀ (l : List W4) (i : Nat) (o : W4), l[i]? = some o → (wrCells l)[i * 4]? = some (.int .i64 o.1) ∧ (wrCells l)[i * 4 + 1]? = some (.int .i64 o.2.1) ∧ (wrCells l)[i * 4 + 2]? = some (.int .i64 o.2.2.1) ∧ (wrCells l)[i * 4 + 3]? = some (.int .i64 o.2.2.2)
  | [], i, o, h => by simp at h
  | x :: l, 0, o, h => by
    simp at h
    subst h
    simp [wrCells]
  | x :: l, i + 1, o, h => by
    have := wrCells_at l i o (by simpa using h)
    have e : wrCells (x :: l) = [.int .i64 x.1, .int .i64 x.2.1, .int .i64 x.2.2.1, .int .i64 x.2.2.2] ++ wrCells l := by simp [wrCells]
    rw [e]
    refine ⟨?_, ?_, ?_, ?_⟩
    · rw [List.getElem?_append_right (by simp; omega)]
      simpa [show (i + 1) * 4 - 4 = i * 4 by omega] using this.1
    · rw [List.getElem?_append_right (by simp; omega)]
      simpa [show (i + 1) * 4 + 1 - 4 = i * 4 + 1 by omega] using this.2.1
    · rw [List.getElem?_append_right (by simp; omega)]
      simpa [show (i + 1) * 4 + 2 - 4 = i * 4 + 2 by omega] using this.2.2.1
    · rw [List.getElem?_append_right (by simp; omega)]
      simpa [show (i + 1) * 4 + 3 - 4 = i * 4 + 3 by omega] using this.2.2.2
theorem wrs_of_own {w : World} {base : Nat} {v : Value} {l : List W4} (h : w.ownsRow base 58 4 v l.length (wrCells l)) : Wrs w v l := by
  have hl := h.lt
  have hcs := @World.ownsRow.cells _ _ _ _ _ _ _ h
  rcases h.2 with ⟨rfl, h0⟩ | ⟨g, cap, cur, rfl, _, _, hcap, _⟩
  · exact Or.inl ⟨List.eq_nil_of_length_eq_zero h0, _, _, rfl⟩
  · have hat : ∀ j u, (wrCells l)[j]? = some u → w.cell? ⟨g, j, none⟩ = some u := fun j u hu => by
      have := hcs rfl j u hu
      unfold Addr.add at this
      split at this
      · rename_i h0; subst h0; exact this
      · simpa using this
    refine Or.inr ⟨g, 0, cap, rfl, hcap, (hl g rfl).2, fun i o ho => ?_⟩
    obtain ⟨h1, h2, h3, h4⟩ := wrCells_at l i o ho
    exact ⟨by simpa using hat _ _ h1, by simpa using hat _ _ h2, by simpa using hat _ _ h3, by simpa using hat _ _ h4⟩
theorem infoWr : (Tryd.prog.info? 58).map (fun i => (i.zero, i.size, i.bytes)) = some (some (.agg #[.int .i64 0, .int .i64 0, .int .i64 0, .int .i64 0]), 4, 32) := by kernel_rfl
theorem wr_new {w : World} {k : Nat} (hk : k = w.heap.size) (x y z u : Value) (t : TypeId) : ∀ j q, [x, y, z, u][j]? = some q → (w.alloc (.cells #[x, y, z, u] t)).cell? ((⟨k, 0, none⟩ : Addr).add j) = some q := by
  subst hk
  intro j q hj
  match j, hj with
  | 0, hj => simp at hj; subst hj; simp [Addr.add]
  | 1, hj => simp at hj; subst hj; simp [Addr.add]
  | 2, hj => simp at hj; subst hj; simp [Addr.add]
  | 3, hj => simp at hj; subst hj; simp [Addr.add]
theorem four_one (a b c d : Int) : ∀ u ∈ [Value.int .i64 a, .int .i64 b, .int .i64 c, .int .i64 d], u.oneCell' = true := by
  intro u hu
  simp at hu
  rcases hu with rfl | rfl | rfl | rfl <;> rfl
theorem own4_form {w : World} {base : Nat} {e : TypeId} {size : Nat} {v : Value} {n : Nat} {xs : List Value} (R : w.ownsRow base e size v n xs) : ∃ g cap, v = .slice g n cap := by
  rcases R.2 with ⟨h, h0⟩ | ⟨g, cap, cur, h, _⟩
  · exact ⟨_, _, by rw [h0]; exact h⟩
  · exact ⟨_, _, h⟩
end Go.Proofs.YtajfgmlockjmhaeDoor
namespace Go.Proofs.YtajfgmlockjmhaeDoor
open Go.RowKit

theorem own_two {w : World} {base base' : Nat} {e e' : TypeId} {size size' : Nat} {v v' : Value} {n n' : Nat} {xs xs' : List Value} (h : w.ownsRow base e size v n xs) (h' : w.ownsRow base' e' size' v' n' xs') (he : e ≠ e') : ∀ g, v.ownBlock = some g → v'.ownBlock ≠ some g := fun g hg hg' => by
  rcases h.2 with ⟨rfl, _⟩ | ⟨g1, c1, u1, rfl, _, hb1, _⟩
  · cases hg
  · rcases h'.2 with ⟨rfl, _⟩ | ⟨g2, c2, u2, rfl, _, hb2, _⟩
    · cases hg'
    · simp only [Value.ownBlock, Option.some.injEq] at hg hg'
      subst hg
      subst hg'
      rw [hb1] at hb2
      simp only [Option.some.injEq, Obj.cells.injEq] at hb2
      exact he hb2.2.1
end Go.Proofs.YtajfgmlockjmhaeDoor
namespace Go.Proofs.YtajfgmlockjmhaeDoor
open Go.RowKit

/-- What lies in fours can be read cell by cell. -/
theorem quad_at {w : World} {b : Nat} : ∀ (l : List W4) (off : Nat), WrC w b off l → ∀ j u, (wrCells l)[j]? = some u → w.cell? ((⟨b, off, none⟩ : Addr).add j) = some u
  | [], off, _, j, u, hj => by simp [wrCells] at hj
  | x :: l, off, h, j, u, hj => by
    have e : wrCells (x :: l) = [.int .i64 x.1, .int .i64 x.2.1, .int .i64 x.2.2.1, .int .i64 x.2.2.2] ++ wrCells l := by simp [wrCells]
    rw [e] at hj
    obtain ⟨h0, h1, h2, h3⟩ := h 0 x (by simp)
    rw [Addr.add_lit]
    match j, hj with
    | 0, hj => simp at hj; subst hj; simpa using h0
    | 1, hj => simp at hj; subst hj; simpa using h1
    | 2, hj => simp at hj; subst hj; simpa using h2
    | 3, hj => simp at hj; subst hj; simpa using h3
    | j + 4, hj =>
      rw [List.getElem?_append_right (by simp)] at hj
      have ih := quad_at l (off + 4) (fun i o ho => by
        have := h (i + 1) o (by simpa using ho)
        rw [show off + (i + 1) * 4 = off + 4 + i * 4 by omega] at this
        exact this) j u (by simpa using hj)
      rw [Addr.add_lit] at ih
      rw [show off + (j + 4) = off + 4 + j by omega]
      exact ih
set_option maxRecDepth 100000 in
set_option maxHeartbeats 4000000 in
theorem clone_wr_nil (cap : Nat) (w : World) : Calls Tryd.prog 43 #[.slice none 0 cap] w fun e w' => e = .returned (.slice none 0 0) ∧ w' = w := by
  have q : ∀ (w : World) (a : Option Addr) (n c n' c' : Nat), (binOp .eql 24 (.slice a n c) (.slice none n' c')).run Tryd.prog w = .ok (.bool a.isNone) w := fun w a n c n' c' => Lib.run_eql_slice_nil w _ _ a n c n' c' Tryd.underlying24
  go_enter Tryd.func43, Tryd.ntmps43
  go_wp2
  go_ret
  exact ⟨rfl, rfl⟩
set_option maxRecDepth 100000 in
set_option maxHeartbeats 4000000 in
theorem clone_wr_some (ad : Addr) (cap : Nat) (l : List W4) (w : World) (hx : l.length ≤ 1000) (hc : ∀ j u, (wrCells l)[j]? = some u → w.cell? (ad.add j) = some u) :
    Calls Tryd.prog 43 #[.slice (some ad) l.length cap] w fun e w' => ∃ v', e = .returned v' ∧ w'.ownsRow w.heap.size 58 4 v' l.length (wrCells l) ∧ Below w.heap.size w w' := by
  obtain ⟨ii, hi, hz0, hz1, hz2⟩ := info_parts infoWr
  have q : ∀ (w : World) (a : Option Addr) (n c n' c' : Nat), (binOp .eql 24 (.slice a n c) (.slice none n' c')).run Tryd.prog w = .ok (.bool a.isNone) w := fun w a n c n' c' => Lib.run_eql_slice_nil w _ _ a n c n' c' Tryd.underlying24
  have HC : Hid (∀ j u, (wrCells l)[j]? = some u → w.cell? (ad.add j) = some u) := hc
  clear hc
  go_enter Tryd.func43, Tryd.ntmps43
  go_wp2_with (at_builtin; refine wpList_append_at _ rfl _ _ 24 rfl w.heap.size 58 ii _ 4 32 Tryd.underlying24 hi hz0 hz1 hz2 rfl (by decide) _ _ _ rfl (World.ownsRow_made w #[] 0 (Nat.le_refl _) (Nat.zero_le _) rfl) ad l.length cap (wrCells l) rfl ?c0A ?c1A ?c2A ?c3A ?c4A ?c5A ?_)
  case c0A => exact wrCells_len l
  case c1A =>
    intro j u hj
    have h := HC.out j u hj
    exact (((Below.refl _ w).alloc (Nat.le_refl _) _).cell (p := ad.add j) (World.block_lt_of_cell? w _ h)).trans h
  case c2A => exact wrCells_one l
  case c3A => unfold maxLen; omega
  case c4A => omega
  case c5A => simp
  intro v1 w2 own1 hg1 hat1
  clear q
  go_wp2
  go_ret
  refine ⟨v1, rfl, by simpa using own1, ((Below.refl _ w).alloc (Nat.le_refl _) _).grown hg1 (by simp) (by intro k hk; simp [Value.ownBlock] at hk; omega)⟩
theorem clone_wrs (l : List W4) (v : Value) (w : World) (h : Wrs w v l) (hx : l.length ≤ 1000) :
    Calls Tryd.prog 43 #[v] w fun e w' => ∃ v', e = .returned v' ∧ w'.ownsRow w.heap.size 58 4 v' l.length (wrCells l) ∧ Below w.heap.size w w' := by
  rcases h with ⟨rfl, ao, cap, rfl⟩ | ⟨b, off, cap, rfl, hcap, hlt, hc⟩
  · cases ao with
    | none =>
      refine (clone_wr_nil cap w).mono ?_
      rintro e w' ⟨rfl, rfl⟩
      exact ⟨_, rfl, World.ownsRow_nil _ _ _ _, Below.refl _ _⟩
    | some ad => exact clone_wr_some ad cap [] w (Nat.zero_le _) (fun j u hj => by simp [wrCells] at hj)
  · exact clone_wr_some ⟨b, off, none⟩ cap l w hx (quad_at l off hc)
end Go.Proofs.YtajfgmlockjmhaeDoor
namespace Go.Proofs.YtajfgmlockjmhaeDoor
open Go.RowKit

/-- The plan is being made: codes so far. -/
structure QP (b0 : Nat) (w1 W : World) (p : PD) (R : Nat → Bool) (kb : Nat) (vs vw cv : Value) (us : List Value) : Prop where
  tk : KTouch [kb] w1 W
  kl : kb < w1.heap.size
  k0 : b0 ≤ kb
  blk : W.heap[kb]? = some (.cells #[cv, .int .i64 p.ticks, vs, vw] 26 (0, 0))
  own : W.ownsRow w1.heap.size 39 1 cv us.length us
  ops : ∀ (i : Nat) u c, us[i]? = some u → p.code[i]? = some c → Ops W u (if R i = true then c else restC)
  ap : ∀ u ∈ us, ∀ g, u.ownBlock = some g → (g < b0 ∨ w1.heap.size ≤ g) ∧ g < W.heap.size ∧ cv.ownBlock ≠ some g
  len : us.length ≤ p.code.length
theorem QP.cs {b0 : Nat} {w1 W : World} {p : PD} {R : Nat → Bool} {kb : Nat} {vs vw cv : Value} {us : List Value} (h : QP b0 w1 W p R kb vs vw cv us) : W.cell? ⟨kb, 0, none⟩ = some cv ∧ W.cell? ⟨kb, 1, none⟩ = some (.int .i64 p.ticks) ∧ W.cell? ⟨kb, 2, none⟩ = some vs ∧ W.cell? ⟨kb, 3, none⟩ = some vw ∧ W.frozen? ⟨kb, 0, none⟩ = false := by
  have e := h.blk
  simp [World.cell?, World.frozen?, e]
/-- One code more: one of the plan's, or one that rests. -/
theorem QP.more {b0 : Nat} {w1 W w2 wa : World} {p : PD} {R : Nat → Bool} {kb : Nat} {vs vw cv cv' u : Value} {us : List Value} {c : List O3} (h : QP b0 w1 W p R kb vs vw cv us) (hc : p.code[us.length]? = some c) (b2 : Below W.heap.size W w2) (hu : Ops w2 u (if R us.length = true then c else restC))
    (hua : ∀ g, u.ownBlock = some g → (g < b0 ∨ W.heap.size ≤ g) ∧ g < w2.heap.size)
    (hg : (w2.alloc (.cells #[u] 39)).grownBy wa cv.ownBlock) (hown : wa.ownsRow w1.heap.size 39 1 cv' (us.length + 1) (us ++ [u])) (hnew : ∀ g, cv'.ownBlock = some g → cv.ownBlock = some g ∨ w2.heap.size + 1 ≤ g) : QP b0 w1 (wa.setCell ⟨kb, 0, none⟩ cv') p R kb vs vw cv' (us ++ [u]) := by
  have b3 : Below W.heap.size W (w2.alloc (.cells #[u] 39)) := b2.alloc b2.size _
  have hs3 : (w2.alloc (.cells #[u] 39)).heap.size = w2.heap.size + 1 := by simp
  have hs := h.tk.size
  have hs2 := b2.size
  have hga := hg.size
  rw [hs3] at hga
  have hkl := h.kl
  have hk0 := h.k0
  have hcr : ∀ k, cv.ownBlock = some k → w1.heap.size ≤ k ∧ k < W.heap.size := fun k hk => h.own.lt k hk
  have hset : ∀ k, k ≠ kb → (wa.setCell ⟨kb, 0, none⟩ cv').heap[k]? = wa.heap[k]? := fun k hk => Below.heap_setCell _ _ _ _ hk
  have hsz2 : (wa.setCell ⟨kb, 0, none⟩ cv').heap.size = wa.heap.size := by simp
  have hold : ∀ k, k < w2.heap.size → k ≠ kb → cv.ownBlock ≠ some k → (wa.setCell ⟨kb, 0, none⟩ cv').heap[k]? = w2.heap[k]? := fun k h2 h3 h4 => (hset k h3).trans ((hg.block k (by rw [hs3]; omega) (fun e => h4 e.symm)).trans (((Below.refl _ w2).alloc (Nat.le_refl _) _).block k h2))
  have hune : ∀ g, u.ownBlock = some g → g ≠ kb ∧ cv.ownBlock ≠ some g := fun g hg' => by
    obtain ⟨h1, _⟩ := hua g hg'
    refine ⟨by omega, fun e => ?_⟩
    have := hcr g e
    omega
  refine ⟨⟨(hg.os.trans (b3.os.trans h.tk.os)), (hg.tape.trans (b3.tape.trans h.tk.tape)), (hg.output.trans (b3.output.trans h.tk.output)), by omega, fun k hk hm => ?_⟩, h.kl, h.k0, ?_, ?_, fun i x d hx hd => ?_, fun x hx g hgx => ?_, ?_⟩
  · have hkk : k ≠ kb := fun e => hm (by simp [e])
    refine (hset k hkk).trans ((hg.block k (by rw [hs3]; omega) (fun e => ?_)).trans ((b3.block k (by omega)).trans (h.tk.block k hk hm)))
    have := (hcr k e.symm).1
    omega
  · have hlt : kb < W.heap.size := by omega
    have e : wa.heap[kb]? = some (.cells #[cv, .int .i64 p.ticks, vs, vw] 26 (0, 0)) := (hg.block kb (by rw [hs3]; omega) (fun e => by have := (hcr kb e.symm).1; omega)).trans ((b3.block kb hlt).trans h.blk)
    simp [World.setCell, Array.getElem?_modify, e]
  · rw [List.length_append]
    exact ownsRow_setCell_below hown (a := ⟨kb, 0, none⟩) h.kl cv'
  · by_cases hi : i < us.length
    · rw [List.getElem?_append_left hi] at hx
      have ho := h.ops i x d hx hd
      refine (ho.all b2).block (fun k hk he => ?_) (by omega)
      obtain ⟨h1, h2, h3⟩ := h.ap x (List.mem_of_getElem? hx) k he
      exact hold k hk (by omega) h3
    · have hlt := (List.getElem?_eq_some_iff.1 hx).1
      rw [List.length_append, List.length_singleton] at hlt
      obtain rfl : i = us.length := by omega
      rw [List.getElem?_append_right (Nat.le_refl _), Nat.sub_self] at hx
      simp only [List.getElem?_cons_zero, Option.some.injEq] at hx
      subst hx
      rw [hc] at hd
      obtain rfl := Option.some.inj hd
      exact hu.block (fun k hk he => hold k hk (hune k he).1 (hune k he).2) (by omega)
  · rcases List.mem_append.1 hx with h1 | h1
    · obtain ⟨h2, h3, h4⟩ := h.ap x h1 g hgx
      refine ⟨h2, by omega, fun e => ?_⟩
      rcases hnew g e with h5 | h5
      · exact h4 h5
      · omega
    · rw [List.mem_singleton] at h1
      subst h1
      obtain ⟨h2, h3⟩ := hua g hgx
      refine ⟨by omega, by omega, fun e => ?_⟩
      rcases hnew g e with h5 | h5
      · exact (hune g hgx).2 h5
      · omega
  · rw [List.length_append, List.length_singleton]
    exact (List.getElem?_eq_some_iff.1 hc).1
/-- All of them, read elsewhere than in two blocks of the caller's. -/
theorem QP.cds {b0 : Nat} {w1 W W' : World} {p : PD} {R : Nat → Bool} {kb : Nat} {vs vw cv : Value} {us : List Value} (h : QP b0 w1 W p R kb vs vw cv us) (hl : us.length = p.code.length) {M : List Nat} (ht : KTouch M W W') (hM : ∀ m ∈ M, b0 ≤ m ∧ m < w1.heap.size) : Cds W' cv (purgeC R 0 p.code) := by
  have hrl := h.own.lt
  have hcs := @World.ownsRow.cells _ _ _ _ _ _ _ h.own
  have hlen : (purgeC R 0 p.code).length = us.length := by rw [purgeC_len, hl]
  rcases h.own.2 with ⟨rfl, h0⟩ | ⟨g, cap, cur, rfl, hge, _, hcap, _⟩
  · exact Or.inl ⟨List.eq_nil_of_length_eq_zero (by rw [hlen]; exact h0), _, _, rfl⟩
  · refine Or.inr ⟨g, 0, cap, by rw [hlen], by rw [hlen]; exact hcap, Nat.lt_of_lt_of_le (hrl g rfl).2 ht.size, fun i d hd => ?_⟩
    rw [purgeC_at] at hd
    obtain ⟨c, hc, hcd⟩ := Option.map_eq_some_iff.1 hd
    have hil : i < us.length := by rw [hl]; exact (List.getElem?_eq_some_iff.1 hc).1
    have hu : us[i]? = some us[i] := List.getElem?_eq_getElem hil
    have hcell := hcs rfl i _ hu
    rw [Addr.add_lit] at hcell
    refine ⟨us[i], (World.cell?_of_block (w := W) (a := ⟨g, _, none⟩) (ht.block g (hrl g rfl).2 (fun hm => ?_))).trans hcell, ?_⟩
    · have := (hM g hm).2
      omega
    · rw [← hcd, Nat.zero_add]
      refine (h.ops i _ c hu hc).block (fun k hk he => ht.block k hk (fun hm => ?_)) ht.size
      obtain ⟨h1, _, _⟩ := h.ap _ (List.mem_of_getElem? hu) k he
      have := hM k hm
      omega
theorem rest_ops {w : World} {k : Nat} (hk : k = w.heap.size) : Ops (w.alloc (.cells #[.int .i64 10, .int .i64 0, .int .i64 0] 38)) (.slice (some ⟨k, 0, none⟩) 1 1) restC := by
  subst hk
  refine Or.inr ⟨w.heap.size, 0, 1, rfl, by simp, fun i o ho => ?_⟩
  match i, ho with
  | 0, ho => simp [restC] at ho; subst ho; simp [go_sem]
  | i + 1, ho => simp [restC] at ho
end Go.Proofs.YtajfgmlockjmhaeDoor
namespace Go.Proofs.YtajfgmlockjmhaeDoor
open Go.RowKit

/-- A row and a block of another type lie apart. -/
theorem own_not {w : World} {base : Nat} {e t : TypeId} {size : Nat} {v : Value} {n kb : Nat} {xs : List Value} {cs : Array Value} {q : Nat × Nat} (h : w.ownsRow base e size v n xs) (hb : w.heap[kb]? = some (.cells cs t q)) (he : e ≠ t) : ∀ g, v.ownBlock = some g → g ≠ kb := fun g hg hgk => by
  rcases h.2 with ⟨rfl, _⟩ | ⟨g1, c1, u1, rfl, _, hb1, _⟩
  · cases hg
  · simp only [Value.ownBlock, Option.some.injEq] at hg
    subst hg
    subst hgk
    rw [hb1] at hb
    simp only [Option.some.injEq, Obj.cells.injEq] at hb
    exact he hb.2.1
theorem purgeC_all (l : List (List O3)) (i : Nat) : purgeC (fun _ => true) i l = l := by
  refine List.ext_getElem? fun j => ?_
  rw [purgeC_at]
  cases l[j]? <;> simp
/-- Its rows. -/
structure PlO (w : World) (b : Nat) (cv sv wv : Value) (p : PD) (us : List Value) : Prop where
  own : w.ownsRow b 39 1 cv us.length us
  len : us.length = p.code.length
  ops : ∀ (i : Nat) u c, us[i]? = some u → p.code[i]? = some c → Ops w u c
  ap : ∀ u ∈ us, ∀ g, u.ownBlock = some g → b ≤ g ∧ g < w.heap.size ∧ cv.ownBlock ≠ some g
  sps : w.ownsRow b 41 3 sv p.spans.length (spCells p.spans)
  wrs : w.ownsRow b 58 4 wv p.wires.length (wrCells p.wires)
/-- Its blocks. -/
def plF (cv sv wv : Value) (us : List Value) : List Nat := (cv :: sv :: wv :: us).filterMap Value.ownBlock
section
variable {w w' : World} {b : Nat} {cv sv wv : Value} {p : PD} {us : List Value}
theorem plF_cv {g : Nat} (h : cv.ownBlock = some g) : g ∈ plF cv sv wv us := List.mem_filterMap.2 ⟨cv, by simp, h⟩
theorem plF_sv {g : Nat} (h : sv.ownBlock = some g) : g ∈ plF cv sv wv us := List.mem_filterMap.2 ⟨sv, by simp, h⟩
theorem plF_wv {g : Nat} (h : wv.ownBlock = some g) : g ∈ plF cv sv wv us := List.mem_filterMap.2 ⟨wv, by simp, h⟩
theorem plF_u {g : Nat} {u : Value} (hu : u ∈ us) (h : u.ownBlock = some g) : g ∈ plF cv sv wv us := List.mem_filterMap.2 ⟨u, by simp [hu], h⟩
theorem PlO.flt (h : PlO w b cv sv wv p us) : ∀ g ∈ plF cv sv wv us, b ≤ g ∧ g < w.heap.size := fun g hg => by
  obtain ⟨v, hv, hvg⟩ := List.mem_filterMap.1 hg
  simp only [List.mem_cons] at hv
  rcases hv with rfl | rfl | rfl | hv
  · exact h.own.lt g hvg
  · exact h.sps.lt g hvg
  · exact h.wrs.lt g hvg
  · exact ⟨(h.ap v hv g hvg).1, (h.ap v hv g hvg).2.1⟩
theorem PlO.lower {b' : Nat} (h : PlO w b cv sv wv p us) (hb : b' ≤ b) : PlO w b' cv sv wv p us :=
  ⟨own_base h.own hb, h.len, h.ops, fun u hu g hg => ⟨Nat.le_trans hb (h.ap u hu g hg).1, (h.ap u hu g hg).2⟩, own_base h.sps hb, own_base h.wrs hb⟩
theorem PlO.kept (h : PlO w b cv sv wv p us) (hs : w.heap.size ≤ w'.heap.size) (hb : ∀ g ∈ plF cv sv wv us, w'.heap[g]? = w.heap[g]?) : PlO w' b cv sv wv p us :=
  ⟨own_block h.own (fun k hk => hb k (plF_cv hk)), h.len, fun i u c hu hc => (h.ops i u c hu hc).block (fun k _ hk => hb k (plF_u (List.mem_of_getElem? hu) hk)) hs, fun u hu g hg => by
    obtain ⟨h1, h2, h3⟩ := h.ap u hu g hg
    exact ⟨h1, by omega, h3⟩, own_block h.sps (fun k hk => hb k (plF_sv hk)), own_block h.wrs (fun k hk => hb k (plF_wv hk))⟩
theorem PlO.cds (h : PlO w b cv sv wv p us) : Cds w cv p.code := by
  have hrl := h.own.lt
  have hcs := @World.ownsRow.cells _ _ _ _ _ _ _ h.own
  rcases h.own.2 with ⟨rfl, h0⟩ | ⟨g, cap, cur, rfl, hge, _, hcap, _⟩
  · exact Or.inl ⟨List.eq_nil_of_length_eq_zero (by rw [← h.len]; exact h0), _, _, rfl⟩
  · refine Or.inr ⟨g, 0, cap, by rw [← h.len], by rw [← h.len]; exact hcap, (hrl g rfl).2, fun i d hd => ?_⟩
    have hil : i < us.length := by rw [h.len]; exact (List.getElem?_eq_some_iff.1 hd).1
    have hu : us[i]? = some us[i] := List.getElem?_eq_getElem hil
    have hcell := hcs rfl i _ hu
    rw [Addr.add_lit] at hcell
    exact ⟨us[i], hcell, h.ops i _ d hu hd⟩
theorem PlO.pln (h : PlO w b cv sv wv p us) : Pln w cv sv wv p := ⟨h.cds, sps_of_own h.sps, wrs_of_own h.wrs⟩
theorem PlO.of_qp {w1 W W' : World} {kb : Nat} {vs vw : Value} (h : QP 0 w1 W p (fun _ => true) kb vs vw cv us) (hl : us.length = p.code.length) {M : List Nat} (ht : KTouch M W W') (hM : ∀ m ∈ M, m < w1.heap.size) (hb : b ≤ w1.heap.size) (hs : W'.ownsRow b 41 3 sv p.spans.length (spCells p.spans)) (hw : W'.ownsRow b 58 4 wv p.wires.length (wrCells p.wires)) : PlO W' b cv sv wv p us := by
  have hz := ht.size
  refine ⟨own_base (own_block h.own (fun k hk => ht.block k (h.own.lt k hk).2 (fun hm => ?_))) hb, hl, fun i u c hu hc => ?_, fun u hu g hg => ?_, hs, hw⟩
  · have h1 := (h.own.lt k hk).1
    have h2 := hM k hm
    omega
  · have ho := h.ops i u c hu hc
    rw [if_pos rfl] at ho
    refine ho.block (fun k hk he => ht.block k hk (fun hm => ?_)) hz
    obtain ⟨h1, _, _⟩ := h.ap u (List.mem_of_getElem? hu) k he
    have := hM k hm
    omega
  · obtain ⟨h1, h2, h3⟩ := h.ap u hu g hg
    exact ⟨by omega, by omega, h3⟩
end
end Go.Proofs.YtajfgmlockjmhaeDoor
namespace Go.Proofs.YtajfgmlockjmhaeDoor
open Go.RowKit

/-- What lies in threes can be read cell by cell. -/
theorem trio_at {w : World} {b : Nat} : ∀ (l : List (Int × Int × Int)) (off : Nat), (∀ (i : Nat) o, l[i]? = some o → w.cell? ⟨b, off + i * 3, none⟩ = some (.int .i64 o.1) ∧ w.cell? ⟨b, off + i * 3 + 1, none⟩ = some (.int .i64 o.2.1) ∧ w.cell? ⟨b, off + i * 3 + 2, none⟩ = some (.int .i64 o.2.2)) → ∀ j u, (spCells l)[j]? = some u → w.cell? ((⟨b, off, none⟩ : Addr).add j) = some u
  | [], off, _, j, u, hj => by simp [spCells] at hj
  | x :: l, off, h, j, u, hj => by
    have e : spCells (x :: l) = [.int .i64 x.1, .int .i64 x.2.1, .int .i64 x.2.2] ++ spCells l := by simp [spCells]
    rw [e] at hj
    obtain ⟨h0, h1, h2⟩ := h 0 x (by simp)
    rw [Addr.add_lit]
    match j, hj with
    | 0, hj => simp at hj; subst hj; simpa using h0
    | 1, hj => simp at hj; subst hj; simpa using h1
    | 2, hj => simp at hj; subst hj; simpa using h2
    | j + 3, hj =>
      rw [List.getElem?_append_right (by simp)] at hj
      have ih := trio_at l (off + 3) (fun i o ho => by
        have := h (i + 1) o (by simpa using ho)
        rw [show off + (i + 1) * 3 = off + 3 + i * 3 by omega] at this
        exact this) j u (by simpa using hj)
      rw [Addr.add_lit] at ih
      rw [show off + (j + 3) = off + 3 + j by omega]
      exact ih
theorem spCells_len : ∀ l : List (Int × Int × Int), (spCells l).length = l.length * 3
  | [] => rfl
  | x :: l => by
    have e : spCells (x :: l) = [.int .i64 x.1, .int .i64 x.2.1, .int .i64 x.2.2] ++ spCells l := by simp [spCells]
    rw [e, List.length_append, spCells_len l, List.length_cons]
    simp
    omega
theorem spCells_one (l : List (Int × Int × Int)) : ∀ u ∈ spCells l, u.oneCell' = true := by
  intro u hu
  simp only [spCells, List.mem_flatMap] at hu
  obtain ⟨o, _, hu⟩ := hu
  simp at hu
  rcases hu with rfl | rfl | rfl <;> rfl
theorem ginfoOp : (Tryd.prog.info? 38).map (fun i => (i.zero, i.size, i.bytes)) = some (some (.agg #[.int .i64 0, .int .i64 0, .int .i64 0]), 3, 24) := by kernel_rfl
set_option maxRecDepth 100000 in
set_option maxHeartbeats 4000000 in
theorem clone_op_nil (cap : Nat) (w : World) : Calls Tryd.prog 33 #[.slice none 0 cap] w fun e w' => e = .returned (.slice none 0 0) ∧ w' = w := by
  have q : ∀ (w : World) (a : Option Addr) (n c n' c' : Nat), (binOp .eql 39 (.slice a n c) (.slice none n' c')).run Tryd.prog w = .ok (.bool a.isNone) w := fun w a n c n' c' => Lib.run_eql_slice_nil w _ _ a n c n' c' Tryd.underlying39
  go_enter Tryd.func33, Tryd.ntmps33
  go_wp2
  go_ret
  exact ⟨rfl, rfl⟩
set_option maxRecDepth 100000 in
set_option maxHeartbeats 4000000 in
theorem clone_op_some (ad : Addr) (cap : Nat) (l : List (Int × Int × Int)) (w : World) (hx : l.length ≤ 1000) (hc : ∀ j u, (spCells l)[j]? = some u → w.cell? (ad.add j) = some u) :
    Calls Tryd.prog 33 #[.slice (some ad) l.length cap] w fun e w' => ∃ v', e = .returned v' ∧ w'.ownsRow w.heap.size 38 3 v' l.length (spCells l) ∧ Below w.heap.size w w' := by
  obtain ⟨ii, hi, hz0, hz1, hz2⟩ := info_parts ginfoOp
  have q : ∀ (w : World) (a : Option Addr) (n c n' c' : Nat), (binOp .eql 39 (.slice a n c) (.slice none n' c')).run Tryd.prog w = .ok (.bool a.isNone) w := fun w a n c n' c' => Lib.run_eql_slice_nil w _ _ a n c n' c' Tryd.underlying39
  have HC : Hid (∀ j u, (spCells l)[j]? = some u → w.cell? (ad.add j) = some u) := hc
  clear hc
  go_enter Tryd.func33, Tryd.ntmps33
  go_wp2_with (at_builtin; refine wpList_append_at _ rfl _ _ 39 rfl w.heap.size 38 ii _ 3 24 Tryd.underlying39 hi hz0 hz1 hz2 rfl (by decide) _ _ _ rfl (World.ownsRow_made w #[] 0 (Nat.le_refl _) (Nat.zero_le _) rfl) ad l.length cap (spCells l) rfl ?c0A ?c1A ?c2A ?c3A ?c4A ?c5A ?_)
  case c0A => exact spCells_len l
  case c1A =>
    intro j u hj
    have h := HC.out j u hj
    exact (((Below.refl _ w).alloc (Nat.le_refl _) _).cell (p := ad.add j) (World.block_lt_of_cell? w _ h)).trans h
  case c2A => exact spCells_one l
  case c3A => unfold maxLen; omega
  case c4A => omega
  case c5A => simp
  intro v1 w2 own1 hg1 hat1
  clear q
  go_wp2
  go_ret
  refine ⟨v1, rfl, by simpa using own1, ((Below.refl _ w).alloc (Nat.le_refl _) _).grown hg1 (by simp) (by intro k hk; simp [Value.ownBlock] at hk; omega)⟩
theorem clone_ops (l : List O3) (v : Value) (w : World) (h : Ops w v l) (hx : l.length ≤ 1000) :
    Calls Tryd.prog 33 #[v] w fun e w' => ∃ v', e = .returned v' ∧ w'.ownsRow w.heap.size 38 3 v' l.length (spCells l) ∧ Below w.heap.size w w' := by
  rcases h with ⟨rfl, ao, cap, rfl⟩ | ⟨b, off, cap, rfl, hlt, hc⟩
  · cases ao with
    | none =>
      refine (clone_op_nil cap w).mono ?_
      rintro e w' ⟨rfl, rfl⟩
      exact ⟨_, rfl, World.ownsRow_nil _ _ _ _, Below.refl _ _⟩
    | some ad => exact clone_op_some ad cap [] w (Nat.zero_le _) (fun j u hj => by simp [spCells] at hj)
  · exact clone_op_some ⟨b, off, none⟩ cap l w hx (trio_at l off hc)
/-- Ops in a row of their own can be read. -/
theorem gops_own {w : World} {base : Nat} {v : Value} {l : List O3} (h : w.ownsRow base 38 3 v l.length (spCells l)) : Ops w v l := by
  have hl := h.lt
  have hcs := @World.ownsRow.cells _ _ _ _ _ _ _ h
  rcases h.2 with ⟨rfl, h0⟩ | ⟨g, cap, cur, rfl, _, _, hcap, _⟩
  · exact Or.inl ⟨List.eq_nil_of_length_eq_zero h0, _, _, rfl⟩
  · have hat : ∀ j u, (spCells l)[j]? = some u → w.cell? ⟨g, j, none⟩ = some u := fun j u hu => by
      have := hcs rfl j u hu
      rwa [Addr.add_lit, Nat.zero_add] at this
    refine Or.inr ⟨g, 0, cap, rfl, (hl g rfl).2, fun i o ho => ?_⟩
    obtain ⟨h1, h2, h3⟩ := spCells_at l i o ho
    exact ⟨by simpa using hat _ _ h1, by simpa using hat _ _ h2, by simpa using hat _ _ h3⟩
end Go.Proofs.YtajfgmlockjmhaeDoor
namespace Go.Proofs.YtajfgmlockjmhaeDoor
open Go.RowKit

set_option maxRecDepth 100000 in
set_option maxHeartbeats 4000000 in
theorem clone_sp_nil (cap : Nat) (w : World) : Calls Tryd.prog 38 #[.slice none 0 cap] w fun e w' => e = .returned (.slice none 0 0) ∧ w' = w := by
  have q : ∀ (w : World) (a : Option Addr) (n c n' c' : Nat), (binOp .eql 23 (.slice a n c) (.slice none n' c')).run Tryd.prog w = .ok (.bool a.isNone) w := fun w a n c n' c' => Lib.run_eql_slice_nil w _ _ a n c n' c' Tryd.underlying23
  go_enter Tryd.func38, Tryd.ntmps38
  go_wp2
  go_ret
  exact ⟨rfl, rfl⟩
set_option maxRecDepth 100000 in
set_option maxHeartbeats 4000000 in
theorem clone_sp_some (ad : Addr) (cap : Nat) (l : List (Int × Int × Int)) (w : World) (hx : l.length ≤ 1000) (hc : ∀ j u, (spCells l)[j]? = some u → w.cell? (ad.add j) = some u) :
    Calls Tryd.prog 38 #[.slice (some ad) l.length cap] w fun e w' => ∃ v', e = .returned v' ∧ w'.ownsRow w.heap.size 41 3 v' l.length (spCells l) ∧ Below w.heap.size w w' := by
  obtain ⟨ii, hi, hz0, hz1, hz2⟩ := info_parts infoSp
  have q : ∀ (w : World) (a : Option Addr) (n c n' c' : Nat), (binOp .eql 23 (.slice a n c) (.slice none n' c')).run Tryd.prog w = .ok (.bool a.isNone) w := fun w a n c n' c' => Lib.run_eql_slice_nil w _ _ a n c n' c' Tryd.underlying23
  have HC : Hid (∀ j u, (spCells l)[j]? = some u → w.cell? (ad.add j) = some u) := hc
  clear hc
  go_enter Tryd.func38, Tryd.ntmps38
  go_wp2_with (at_builtin; refine wpList_append_at _ rfl _ _ 23 rfl w.heap.size 41 ii _ 3 24 Tryd.underlying23 hi hz0 hz1 hz2 rfl (by decide) _ _ _ rfl (World.ownsRow_made w #[] 0 (Nat.le_refl _) (Nat.zero_le _) rfl) ad l.length cap (spCells l) rfl ?c0A ?c1A ?c2A ?c3A ?c4A ?c5A ?_)
  case c0A => exact spCells_len l
  case c1A =>
    intro j u hj
    have h := HC.out j u hj
    exact (((Below.refl _ w).alloc (Nat.le_refl _) _).cell (p := ad.add j) (World.block_lt_of_cell? w _ h)).trans h
  case c2A => exact spCells_one l
  case c3A => unfold maxLen; omega
  case c4A => omega
  case c5A => simp
  intro v1 w2 own1 hg1 hat1
  clear q
  go_wp2
  go_ret
  refine ⟨v1, rfl, by simpa using own1, ((Below.refl _ w).alloc (Nat.le_refl _) _).grown hg1 (by simp) (by intro k hk; simp [Value.ownBlock] at hk; omega)⟩
theorem clone_sps (l : List S3) (v : Value) (w : World) (h : Sps w v l) (hx : l.length ≤ 1000) :
    Calls Tryd.prog 38 #[v] w fun e w' => ∃ v', e = .returned v' ∧ w'.ownsRow w.heap.size 41 3 v' l.length (spCells l) ∧ Below w.heap.size w w' := by
  rcases h with ⟨rfl, ao, cap, rfl⟩ | ⟨b, off, cap, rfl, hcap, hlt, hc⟩
  · cases ao with
    | none =>
      refine (clone_sp_nil cap w).mono ?_
      rintro e w' ⟨rfl, rfl⟩
      exact ⟨_, rfl, World.ownsRow_nil _ _ _ _, Below.refl _ _⟩
    | some ad => exact clone_sp_some ad cap [] w (Nat.zero_le _) (fun j u hj => by simp [spCells] at hj)
  · exact clone_sp_some ⟨b, off, none⟩ cap l w hx (trio_at l off hc)
end Go.Proofs.YtajfgmlockjmhaeDoor
namespace Go.Proofs.YtajfgmlockjmhaeDoor
open Go.RowKit
/-- Numbers that can be read. -/
def Rd (w : World) (v : Value) (xs : List Int) : Prop := (xs = [] ∧ ∃ ao cap, v = .slice ao 0 cap) ∨ ∃ g off cap, v = .slice (some ⟨g, off, none⟩) xs.length cap ∧ xs.length ≤ cap ∧ cap ≤ maxLen ∧ g < w.heap.size ∧ ∀ (i : Nat) x, xs[i]? = some x → w.cell? ⟨g, off + i, none⟩ = some (.int .i64 x)
theorem Rd.form {w : World} {v : Value} {xs : List Int} (h : Rd w v xs) : ∃ ao cap, v = .slice ao xs.length cap := by
  rcases h with ⟨rfl, ao, cap, rfl⟩ | ⟨g, off, cap, rfl, _⟩
  · exact ⟨_, _, rfl⟩
  · exact ⟨_, _, rfl⟩
theorem Rd.block {w w' : World} {v : Value} {xs : List Int} (h : Rd w v xs) (hb : ∀ k, k < w.heap.size → v.ownBlock = some k → w'.heap[k]? = w.heap[k]?) (hs : w.heap.size ≤ w'.heap.size) : Rd w' v xs := by
  rcases h with h | ⟨g, off, cap, rfl, h1, h1', h2, h3⟩
  · exact Or.inl h
  · exact Or.inr ⟨g, off, cap, rfl, h1, h1', by omega, fun i x hx => (World.cell?_of_block (w := w) (a := ⟨g, off + i, none⟩) (hb g h2 rfl)).trans (h3 i x hx)⟩
theorem Rd.own {w : World} {base : Nat} {v : Value} {xs : List Int} (h : w.ownsRow base 3 1 v xs.length (ints xs)) : Rd w v xs := by
  rcases row_form h with ⟨rfl, h0⟩ | ⟨g, cap, rfl⟩
  · exact Or.inl ⟨List.eq_nil_of_length_eq_zero h0, _, _, rfl⟩
  · obtain ⟨_, h2, h3, h4, h5, _, _⟩ := own_cap h
    exact Or.inr ⟨g, 0, cap, rfl, h3, h4, h2, fun i x hx => by rw [Nat.zero_add]; exact h5 i _ (ints_at hx)⟩
theorem Rd.all {w w' : World} {v : Value} {xs : List Int} (h : Rd w v xs) (hb : Below w.heap.size w w') : Rd w' v xs := by
  rcases h with h | ⟨g, off, cap, rfl, h1, h1', h2, h3⟩
  · exact Or.inl h
  · exact Or.inr ⟨g, off, cap, rfl, h1, h1', by have := hb.size; omega, fun i x hx => (hb.cell (p := ⟨g, off + i, none⟩) h2).trans (h3 i x hx)⟩
end Go.Proofs.YtajfgmlockjmhaeDoor
namespace Go.Proofs.YtajfgmlockjmhaeDoor
open Go.RowKit

set_option maxRecDepth 100000 in
set_option maxHeartbeats 2000000 in
theorem index_ints (xs : List Int) (x : Int) (b off cap : Nat) (w : World) (hx : xs.length ≤ 1000) (hc : ∀ (i : Nat) y, xs[i]? = some y → w.cell? ⟨b, off + i, none⟩ = some (.int .i64 y)) :
    Calls Tryd.prog 44 #[.slice (some ⟨b, off, none⟩) xs.length cap, .int .i64 x] w fun e w' => (∃ r : Int, e = .returned (.int .i64 r) ∧ decide (0 ≤ r) = xs.contains x) ∧ w' = w := by
  have HC : Hid (∀ (i : Nat) y, xs[i]? = some y → w.cell? ⟨b, off + i, none⟩ = some (.int .i64 y)) := hc
  clear hc
  go_enter Tryd.func44, Tryd.ntmps44
  go_wp2
  go_loopw [8] (fun i wr => ∃ k : Nat, k ≤ xs.length ∧ i = .int .i64 k ∧ (∀ (j : Nat) y, j < k → xs[j]? = some y → (x == y) = false) ∧ wr = w) (fun i _ => xs.length - (intOf i).toNat)
  case atStart => exact ⟨0, Nat.zero_le _, rfl, fun j y hj => by omega, rfl⟩
  case round =>
    obtain ⟨k, hk, rfl, hall, rfl⟩ := hrel
    have Hall : Hid (∀ (j : Nat) y, j < k → xs[j]? = some y → (x == y) = false) := hall
    clear hall
    by_cases hkl : k < xs.length
    · have hki : (k : Int) < (xs.length : Int) := by omega
      obtain ⟨y, hy⟩ : ∃ y, xs[k]? = some y := ⟨xs[k], List.getElem?_eq_getElem hkl⟩
      have d0 := HC.out k y hy
      have HY : Hid (xs[k]? = some y) := hy
      clear hy
      cases hxy : (x == y) with
      | false =>
        go_wp2
        go_roundw
        case rel =>
          refine ⟨k + 1, by omega, by go_num, fun j z hj hz => ?_, by trivial⟩
          by_cases hjk : j < k
          · exact Hall.out j z hjk hz
          · obtain rfl : j = k := by omega
            rw [HY.out] at hz
            obtain rfl := Option.some.inj hz
            exact hxy
        case measure => simp [intOf]; omega
      | true =>
        have HF : Hid (xs.contains x = true) := by
          show _ = _
          rw [List.contains_iff_mem]
          obtain rfl := eq_of_beq hxy
          exact List.mem_of_getElem? HY.out
        go_wp2
        go_ret
        exact ⟨⟨_, rfl, by rw [HF.out]; simp⟩, rfl⟩
    · have hki : decide ((k : Int) < (xs.length : Int)) = false := decide_eq_false (by omega)
      have hki' : decide (k < xs.length) = false := decide_eq_false (by omega)
      have HF : Hid (xs.contains x = false) := by
        show _ = _
        rw [Bool.eq_false_iff]
        intro h
        rw [List.contains_iff_mem] at h
        obtain ⟨j, hj⟩ := List.mem_iff_getElem?.1 h
        have := Hall.out j x (by have := (List.getElem?_eq_some_iff.1 hj).1; omega) hj
        simp at this
      go_wp2
      go_ret
      exact ⟨⟨_, rfl, by rw [HF.out]; decide⟩, rfl⟩
set_option maxRecDepth 100000 in
set_option maxHeartbeats 2000000 in
theorem contains_ints (xs : List Int) (x : Int) (b off cap : Nat) (w : World) (hx : xs.length ≤ 1000) (hc : ∀ (i : Nat) y, xs[i]? = some y → w.cell? ⟨b, off + i, none⟩ = some (.int .i64 y)) :
    Calls Tryd.prog 26 #[.slice (some ⟨b, off, none⟩) xs.length cap, .int .i64 x] w fun e w' => e = .returned (.bool (xs.contains x)) ∧ w' = w := by
  have h := index_ints xs x b off cap w hx hc
  obtain ⟨r, hr⟩ : ∃ r, r = xs.contains x := ⟨_, rfl⟩
  rw [← hr] at h ⊢
  clear hr hc
  go_enter Tryd.func26, Tryd.ntmps26
  go_wp2_with (go_at_call 44; refine h.mono ?_; rintro e w1 ⟨⟨q, rfl, hq⟩, rfl⟩; clear h)
  go_ret
  exact ⟨rfl, rfl⟩
end Go.Proofs.YtajfgmlockjmhaeDoor
namespace Go.Proofs.YtajfgmlockjmhaeDoor
open Go.ChangeShapes Go.WideShapes Go.ChangeAt Go.WideElems Go.RowKit

theorem own : ownKnob Tryd.prog.godebug = none := by kernel_rfl
theorem laidOut : laidOutB Tryd.prog = true := by kernel_rfl
theorem trodAll_below {H : Type} {enc : TypeId × Value → H} {P : Program} (hlo : laidOutB P = true) {W W' : World} (hb : Below W.heap.size W W') (ts : List TypeId) : ∀ {vs : List Value} {ds : List (DataW H)} {ps : List MemPlace},
    (ts.all fun t => P.readableRec t && decide (t < P.types.size)) = true → DataW.TrodAll enc P W 0 (fun _ => true) true ts vs ds ps → (∀ x ∈ ps, x.block < W.heap.size) →
    DataW.TrodAll enc P W' 0 (fun b => decide (b < W.heap.size)) true ts vs ds ps := by
  induction ts with
  | nil =>
    intro vs ds ps _ h _
    cases vs <;> cases ds <;> exact h
  | cons t ts ih =>
    intro vs ds ps ht h hl
    cases vs with
    | nil => exact h.elim
    | cons v vs =>
      cases ds with
      | nil => exact h.elim
      | cons d ds =>
        obtain ⟨p, q, h1, h2, rfl⟩ := h
        simp only [List.all_cons, Bool.and_eq_true, decide_eq_true_eq] at ht
        exact ⟨p, q, Below.trod hlo ht.1.1 ht.1.2 h1 hb (fun x hx => hl x (by simp [hx])), ih (by simpa using ht.2) h2 (fun x hx => hl x (by simp [hx])), rfl⟩

theorem law_post {H : Type} {enc : TypeId × Value → H} {f : Func} {s : ChangeSpec} {W W' : World} {args : Array Value} {ds gs : List (DataW H)} {before : List MemPlace}
    (hf : f.resultTypes = #[4]) (hts : (f.params.toList.all fun t => Tryd.prog.readableRec t && decide (t < Tryd.prog.types.size)) = true) (hsv : s.vars = [])
    (hW : DataW.Whole enc Tryd.prog f.params.toList s.vars false W args.toList ds gs before) (hs : s.fn H (ds ++ gs) = { results := [.lit (.bool true)], args := ds }) (hb : Below W.heap.size W W') :
    s.post enc Tryd.prog f false true false false W args (.bool true) W' := by
  have hW' := hW
  obtain ⟨p, q, hA, hV, rfl, hfz, hnd⟩ := hW
  have hlt : ∀ x ∈ p, x.block < W.heap.size := fun x hx => by simpa using hW'.lt x (by simp [hx])
  refine ⟨ds, gs, p ++ q, [], p, [], hW', ?_, ?_, ?_, hb.frame _, fun h => by cases h⟩
  · rw [hs, hf]
    exact trodAll_cons_mk (shut_bool Tryd.underlying4 _) trodAll_mk0
  · rw [hs]
    exact trodAll_below laidOut hb _ hts hA hlt
  · rw [hs, hsv]
    rfl
end Go.Proofs.YtajfgmlockjmhaeDoor
