/-
  RowL, RdL, StEq, FBase, FrameOwn, RefFrame2, RefFrame: joined into one text.
-/
import Derived.Test.YteejpehfmnjgfagGreatDoorJa1
import Derived.Laws.StructEq
import Derived.Test.YteejpehfmnjgfagGreatDoorRows
import Derived.WalkKit
import Derived.Deep.QuietTactic
import Derived.BigQuiet
import Derived.WalkSmall
namespace Go.Proofs.YteejpehfmnjgfagGreatDoor
open Go.RowKit
/-- Numbers as cells. -/
def ints (xs : List Int) : List Value := xs.map (Value.int .i64)
theorem ints_snoc (xs : List Int) (n : Int) : ints (xs ++ [n]) = ints xs ++ [.int .i64 n] := by simp [ints]
theorem ints_len (xs : List Int) : (ints xs).length = xs.length := by simp [ints]
theorem ints_at {xs : List Int} {i : Nat} {x : Int} (h : xs[i]? = some x) : (ints xs)[i]? = some (.int .i64 x) := by simp [ints, h]
/-- A row is as it was where its block is. -/
theorem own_block {w w' : World} {base : Nat} {e : TypeId} {size : Nat} {v : Value} {n : Nat} {xs : List Value} (h : w.ownsRow base e size v n xs) (hb : ∀ k, v.ownBlock = some k → w'.heap[k]? = w.heap[k]?) : w'.ownsRow base e size v n xs := by
  refine ⟨h.1, ?_⟩
  rcases h.2 with h2 | ⟨g, cap, cur, rfl, h3, h4, r⟩
  · exact Or.inl h2
  · exact Or.inr ⟨g, cap, cur, rfl, h3, (hb g rfl).trans h4, r⟩
theorem own_below {w w' : World} {base B : Nat} {e : TypeId} {size : Nat} {v : Value} {n : Nat} {xs : List Value} (h : w.ownsRow base e size v n xs) (hb : Below B w w') (hB : w.heap.size ≤ B) : w'.ownsRow base e size v n xs :=
  own_block h fun k hk => hb.block k (by have := (h.lt k hk).2; omega)
/-- A row that is cut. -/
theorem own_cut {w : World} {base : Nat} {e : TypeId} {g n cap k : Nat} {xs : List Value} (h : w.ownsRow base e 1 (.slice (some ⟨g, 0, none⟩) n cap) n xs) (hk : k ≤ n) : w.ownsRow base e 1 (.slice (some ⟨g, 0, none⟩) k cap) k (xs.take k) := by
  rcases h.2 with ⟨h2, _⟩ | ⟨g', cap', cur, e0, h3, h4, h5, h6, h7, h8⟩
  · cases h2
  · injection e0 with e1 _ e3
    injection e1 with e1
    injection e1 with e1
    subst e1
    subst e3
    refine ⟨by have := h.1; simp at this ⊢; omega, Or.inr ⟨g, cap, cur, rfl, h3, h4, by omega, h6, h7, ?_⟩⟩
    rw [← h8, List.take_take]
    congr 1
    omega
theorem own_cap {w : World} {base : Nat} {e : TypeId} {g n cap : Nat} {xs : List Value} (h : w.ownsRow base e 1 (.slice (some ⟨g, 0, none⟩) n cap) n xs) : base ≤ g ∧ g < w.heap.size ∧ n ≤ cap ∧ cap ≤ maxLen ∧ (∀ i x, xs[i]? = some x → w.cell? ⟨g, i, none⟩ = some x) ∧ (∀ i, i < cap → (w.cell? ⟨g, i, none⟩).isSome = true) ∧ (∀ i, w.frozen? ⟨g, i, none⟩ = false) := by
  have hl := h.lt g rfl
  rcases h.2 with ⟨h2, _⟩ | ⟨g', cap', cur, e0, h3, h4, h5, h6, h7, h8⟩
  · cases h2
  · injection e0 with e1 _ e3
    injection e1 with e1
    injection e1 with e1
    subst e1
    subst e3
    refine ⟨hl.1, hl.2, h5, h6, fun i x hx => ?_, fun i hi => ?_, fun i => by simp [World.frozen?, h4]⟩
    · have := h.cells (g := g) rfl i x hx
      rwa [Addr.add_lit, Nat.zero_add] at this
    · have hi' : i < cur.size := by omega
      simp [World.cell?, h4, hi']
theorem row_form {w : World} {base : Nat} {e : TypeId} {v : Value} {n : Nat} {xs : List Value} (h : w.ownsRow base e 1 v n xs) : (v = .slice none 0 0 ∧ n = 0) ∨ ∃ g cap, v = .slice (some ⟨g, 0, none⟩) n cap := by
  rcases h.2 with h2 | ⟨g, cap, _, rfl, _⟩
  · exact Or.inl h2
  · exact Or.inr ⟨g, cap, rfl⟩
theorem infoInt : (Tryz.prog.info? 3).map (fun i => (i.zero, i.size, i.bytes)) = some (some (.int .i64 0), 1, 8) := by kernel_rfl

theorem one_new (w : World) (x : Value) (t : TypeId) : ∀ j u, [x][j]? = some u → (w.alloc (.cells #[x] t)).cell? ((⟨w.heap.size, 0, none⟩ : Addr).add j) = some u := by
  intro j u hj
  match j, hj with
  | 0, hj => simp at hj; subst hj; simp [Addr.add]
theorem one_new_at {w : World} {k : Nat} (hk : k = w.heap.size) (x : Value) (t : TypeId) : ∀ j u, [x][j]? = some u → (w.alloc (.cells #[x] t)).cell? ((⟨k, 0, none⟩ : Addr).add j) = some u := by
  subst hk
  exact one_new w x t
theorem one_one (n : Int) : ∀ u ∈ [Value.int .i64 n], u.oneCell' = true := by
  intro u hu
  simp at hu
  subst hu
  rfl
/-- append onto a row that the call owns: where the new row lies. -/
theorem wpList_append_at {P : Program} {ops : Array Oper} {rest : List Oper} {o : Oper} {a : Act} {Q : Exit → Act → World → Prop} (w : World) (hgd : o.guard = none) (s x : Operand) (t : TypeId)
    (ho : o.op = .call { callee := .builtin .append, args := #[s, x], argTypes := #[t, t] })
    (base : Nat) (e : TypeId) (i : TypeInfo) (z : Value) (size bytes : Nat) (ht : P.underlying t = some (.slice e)) (hi : P.info? e = some i) (hz : i.zero = some z)
    (hsize : i.size = size) (hby : i.bytes = bytes) (hzs : z.cells.size = size) (hsz : 0 < size)
    (v : Value) (n : Nat) (xs : List Value) (hs : a.eval s = v) (hown : w.ownsRow base e size v n xs)
    (ad : Addr) (m c : Nat) (news : List Value) (hx : a.eval x = .slice (some ad) m c) (hl : news.length = m * size) (hnews : ∀ j u, news[j]? = some u → w.cell? (ad.add j) = some u) (h1 : ∀ u ∈ news, u.oneCell' = true)
    (h63 : n + m ≤ maxLen) (hbytes : (n + m) * bytes ≤ 140737488355328) (hbase : base ≤ w.heap.size)
    (h : ∀ v' w', w'.ownsRow base e size v' (n + m) (xs ++ news) → w.grownBy w' v.ownBlock → (∀ k, v'.ownBlock = some k → v.ownBlock = some k ∨ w.heap.size ≤ k) → wpList P ops Q rest (a.put o.dst v') w') : wpList P ops Q (o :: rest) a w := by
  obtain ⟨v', w', hr, h2, h3, h4⟩ := run_append_own (P := P) w base t o.type e i z size bytes ht hi hz hsize hby hzs hsz v n xs hown ad m c news hl hnews h1 h63 hbytes hbase
  have hw : ∀ k, v'.ownBlock = some k → v.ownBlock = some k ∨ w.heap.size ≤ k := by
    have h63' : n + m ≤ 9223372036854775807 := by simpa [maxLen] using h63
    subst hsize
    subst hby
    intro k hk
    rcases hown.2 with ⟨rfl, rfl⟩ | ⟨g, cap, cur, rfl, hbg, hg, hnc, hcm, hcs, htake⟩
    · by_cases hm : m = 0
      · rw [h4.2 ⟨rfl, hm⟩] at hk
        cases hk
      · have hr2 := run_append_nil (P := P) w t o.type e i z ht hi hz ad m c news hl hnews (by omega) (by omega) (by have hb := hbytes; simp only [Nat.zero_add] at hb; omega)
        rw [hr] at hr2
        injection hr2 with e1 e2
        subst e1
        simp only [Value.ownBlock, Option.some.injEq] at hk
        right
        omega
    · by_cases hroom : n + m ≤ cap
      · have hfit : n * i.size + news.length ≤ cur.size := by rw [hl, hcs, ← Nat.add_mul]; exact Nat.mul_le_mul_right _ hroom
        have hr2 := run_append_room (P := P) w t o.type e i ht hi g n cap cur hg ad m c news hl hnews h1 hroom hfit
        rw [hr] at hr2
        injection hr2 with e1 e2
        subst e1
        left
        exact hk
      · have holds : ∀ j u, xs[j]? = some u → w.cell? ((⟨g, 0, none⟩ : Addr).add j) = some u := hown.cells (g := g) rfl
        have hr2 := run_append_grow (P := P) w t o.type e i z ht hi hz ⟨g, 0, none⟩ n cap xs hown.1 holds ad m c news hl hnews (by omega) (by omega) (growslice_fits (by omega) hbytes)
        rw [hr] at hr2
        injection hr2 with e1 e2
        subst e1
        simp only [Value.ownBlock, Option.some.injEq] at hk
        right
        omega
  refine wpList_plain hgd fun K hK => ?_
  unfold Oper.wp execOp
  simp only [ho, resolve, invoke, builtin, Sem.run_bind, Sem.run_pure, Result.andThen_ok, List.map_toArray, List.map_cons, List.map_nil, hs, hx, hr]
  exact hK _ _ (h v' w' h2 h3 hw)

theorem append_none (ao : Option Addr) (cap : Nat) (W : World) (ty : TypeId) : (Builtin.append_ #[28, 28] ty #[.slice none 0 0, .slice ao 0 cap]).run Tryz.prog W = .ok (.slice none 0 0) W := by
  obtain ⟨ii, hi, hz0, hz1, hz2⟩ := info_parts infoInt
  cases ao <;> simp [Builtin.append_, run_underlying Tryz.underlying28, sizeOf, typeInfo, hi, Builtin.lenOf, Builtin.firstCells, loadCells, loadCellsFrom]
theorem wpList_append_eq {P : Program} {ops : Array Oper} {rest : List Oper} {o : Oper} {a : Act} {w : World} {Q : Exit → Act → World → Prop} (hgd : o.guard = none) (s x : Operand) (t : TypeId)
    (ho : o.op = .call { callee := .builtin .append, args := #[s, x], argTypes := #[t, t] }) (v1 v2 : Value) (hs : a.eval s = v1) (hx : a.eval x = v2) (v' : Value) (w' : World)
    (hr : (Builtin.append_ #[t, t] o.type #[v1, v2]).run P w = .ok v' w') (h : wpList P ops Q rest (a.put o.dst v') w') : wpList P ops Q (o :: rest) a w := by
  refine wpList_plain hgd fun K hK => ?_
  unfold Oper.wp execOp
  simp only [ho, resolve, invoke, builtin, Sem.run_bind, Sem.run_pure, Result.andThen_ok, List.map_toArray, List.map_cons, List.map_nil, hs, hx, hr]
  exact hK _ _ h
end Go.Proofs.YteejpehfmnjgfagGreatDoor
namespace Go.Proofs.YteejpehfmnjgfagGreatDoor
open Go.RowKit
/-- Numbers that can be read. -/
def Rd (w : World) (v : Value) (xs : List Int) : Prop := (xs = [] ∧ ∃ ao cap, v = .slice ao 0 cap) ∨ ∃ g off cap, v = .slice (some ⟨g, off, none⟩) xs.length cap ∧ xs.length ≤ cap ∧ cap ≤ maxLen ∧ g < w.heap.size ∧ ∀ (i : Nat) x, xs[i]? = some x → w.cell? ⟨g, off + i, none⟩ = some (.int .i64 x)
theorem Rd.form {w : World} {v : Value} {xs : List Int} (h : Rd w v xs) : ∃ ao cap, v = .slice ao xs.length cap := by
  rcases h with ⟨rfl, ao, cap, rfl⟩ | ⟨g, off, cap, rfl, _⟩
  · exact ⟨_, _, rfl⟩
  · exact ⟨_, _, rfl⟩
theorem Rd.block {w w' : World} {v : Value} {xs : List Int} (h : Rd w v xs) (hb : ∀ k, k < w.heap.size → v.ownBlock = some k → w'.heap[k]? = w.heap[k]?) (hs : w.heap.size ≤ w'.heap.size) : Rd w' v xs := by
  rcases h with h | ⟨g, off, cap, rfl, h1, h1', h2, h3⟩
  · exact Or.inl h
  · exact Or.inr ⟨g, off, cap, rfl, h1, h1', by omega, fun i x hx => (World.cell?_of_block (w := w) (a := ⟨g, off + i, none⟩) (hb g h2 rfl)).trans (h3 i x hx)⟩
theorem Rd.own {w : World} {base : Nat} {v : Value} {xs : List Int} (h : w.ownsRow base 3 1 v xs.length (ints xs)) : Rd w v xs := by
  rcases row_form h with ⟨rfl, h0⟩ | ⟨g, cap, rfl⟩
  · exact Or.inl ⟨List.eq_nil_of_length_eq_zero h0, _, _, rfl⟩
  · obtain ⟨_, h2, h3, h4, h5, _, _⟩ := own_cap h
    exact Or.inr ⟨g, 0, cap, rfl, h3, h4, h2, fun i x hx => by rw [Nat.zero_add]; exact h5 i _ (ints_at hx)⟩
theorem Rd.all {w w' : World} {v : Value} {xs : List Int} (h : Rd w v xs) (hb : Below w.heap.size w w') : Rd w' v xs := by
  rcases h with h | ⟨g, off, cap, rfl, h1, h1', h2, h3⟩
  · exact Or.inl h
  · exact Or.inr ⟨g, off, cap, rfl, h1, h1', by have := hb.size; omega, fun i x hx => (hb.cell (p := ⟨g, off + i, none⟩) h2).trans (h3 i x hx)⟩
end Go.Proofs.YteejpehfmnjgfagGreatDoor
namespace Go.Proofs.YteejpehfmnjgfagGreatDoor
open Go.RowKit

theorem fieldsSt : Tryz.prog.underlying 49 = some (.struct (Tryz.prog.fieldsOf 49)) := by kernel_rfl
theorem stoodSt : Tryz.prog.stoodInHeld 49 = false := by kernel_rfl
theorem guardSt : Tryz.prog.eqGuardType Tryz.prog.depth 49 = false := by kernel_rfl
theorem fieldsStIs : Tryz.prog.fieldsOf 49 = #[{ name := "At", type := 3, offset := 0, embedded := false, tag := "", pkgPath := "", byteOffset := 0 }, { name := "Cells", type := 47, offset := 1, embedded := false, tag := "", pkgPath := "", byteOffset := 8 }, { name := "Failed", type := 4, offset := 7, embedded := false, tag := "", pkgPath := "", byteOffset := 56 }] := by kernel_rfl
theorem eqIn_six (a b c d e f : Int) (w : World) : (Op.equalIn 9999 47 (.agg #[.int .i64 a, .int .i64 b, .int .i64 c, .int .i64 d, .int .i64 e, .int .i64 f]) (.agg #[.int .i64 a, .int .i64 b, .int .i64 c, .int .i64 d, .int .i64 e, .int .i64 f])).run Tryz.prog w = .ok true w := by
  obtain ⟨n, hn⟩ : ∃ n, n + 1 = 9999 := ⟨9998, rfl⟩
  obtain ⟨m, hm⟩ : ∃ m, n = m + 1 := ⟨9997, by omega⟩
  rw [← hn]
  clear hn
  have hq : ∀ (x : Int) (w : World), (Op.equalIn n 3 (.int .i64 x) (.int .i64 x)).run Tryz.prog w = .ok true w := fun x w => by
    rw [hm, run_equalIn_int w m 3 .i64 .i64 x x Tryz.underlying3]
    simp
  clear hm
  simp only [Op.equalIn, Sem.run_bind, run_underlying Tryz.underlying47, Result.andThen_ok]
  simp [List.range', go_sem, hq]
theorem eqIn_st (p a b c d e f : Int) (g : Bool) (w : World) : (Op.equalIn 10000 49 (.agg #[.int .i64 p, .int .i64 a, .int .i64 b, .int .i64 c, .int .i64 d, .int .i64 e, .int .i64 f, .bool g]) (.agg #[.int .i64 p, .int .i64 a, .int .i64 b, .int .i64 c, .int .i64 d, .int .i64 e, .int .i64 f, .bool g])).run Tryz.prog w = .ok true w := by
  rw [run_equalIn_agg _ _ _ _ _ fieldsSt stoodSt, fieldsStIs]
  simp [go_sem, Tryz.underlying3, Tryz.underlying4, eqIn_six]
theorem eql_st (p a b c d e f : Int) (g : Bool) (w : World) : (binOp .eql 49 (.agg #[.int .i64 p, .int .i64 a, .int .i64 b, .int .i64 c, .int .i64 d, .int .i64 e, .int .i64 f, .bool g]) (.agg #[.int .i64 p, .int .i64 a, .int .i64 b, .int .i64 c, .int .i64 d, .int .i64 e, .int .i64 f, .bool g])).run Tryz.prog w = .ok (.bool true) w := by
  rw [run_eql_struct, eqIn_st]
  rfl
theorem neq_st (p a b c d e f : Int) (g : Bool) (w : World) : (binOp .neq 49 (.agg #[.int .i64 p, .int .i64 a, .int .i64 b, .int .i64 c, .int .i64 d, .int .i64 e, .int .i64 f, .bool g]) (.agg #[.int .i64 p, .int .i64 a, .int .i64 b, .int .i64 c, .int .i64 d, .int .i64 e, .int .i64 f, .bool g])).run Tryz.prog w = .ok (.bool false) w := by
  rw [run_neq_struct, eqIn_st]
  rfl
end Go.Proofs.YteejpehfmnjgfagGreatDoor
namespace Go.Proofs.YteejpehfmnjgfagGreatDoor
open Go.RowKit

theorem ltc {w : World} {b o : Nat} {v : Value} (h : w.cell? ⟨b, o, none⟩ = some v) : b < w.heap.size := by
  rcases Nat.lt_or_ge b w.heap.size with h' | h'
  · exact h'
  · simp [World.cell?, Array.getElem?_eq_none h'] at h
theorem retB {a b : Bool} (h : a = b) : Ending.returned (.bool a) = .returned (.bool b) := by rw [h]
theorem retI {k : IntKind} {a b : Int} (h : a = b) : Ending.returned (.int k a) = .returned (.int k b) := by rw [h]
/-- An error as a value. -/
def fErr (e : Int) : Value := if e = 0 then .nilIface else .iface 64 (.int .i64 e)
theorem fErr_not {e : Int} (h : e ≠ 0) : fErr e = .iface 64 (.int .i64 e) := by simp [fErr, h]
/-- The cells of spans. -/
def SpC (w : World) (b off : Nat) (l : List S3) : Prop := ∀ (i : Nat) o, l[i]? = some o → w.cell? ⟨b, off + i * 3, none⟩ = some (.int .i64 o.1) ∧ w.cell? ⟨b, off + i * 3 + 1, none⟩ = some (.int .i64 o.2.1) ∧ w.cell? ⟨b, off + i * 3 + 2, none⟩ = some (.int .i64 o.2.2)
/-- Spans that can be read in the world. -/
def Sps (w : World) (v : Value) (l : List S3) : Prop :=
  (l = [] ∧ ∃ ao cap, v = .slice ao 0 cap) ∨ ∃ b off cap, v = .slice (some ⟨b, off, none⟩) l.length cap ∧ l.length ≤ cap ∧ b < w.heap.size ∧ SpC w b off l
theorem SpC.below {w w' : World} {b off B : Nat} {l : List S3} (h : SpC w b off l) (hb : Below B w w') (hlt : b < B) : SpC w' b off l := fun i o ho => by
  obtain ⟨h0, h1, h2⟩ := h i o ho
  exact ⟨(hb.cell (p := ⟨b, _, none⟩) hlt).trans h0, (hb.cell (p := ⟨b, _, none⟩) hlt).trans h1, (hb.cell (p := ⟨b, _, none⟩) hlt).trans h2⟩
theorem SpC.take {w : World} {b off : Nat} {l : List S3} (h : SpC w b off l) (k : Nat) : SpC w b off (l.take k) := fun i o ho => by
  rw [List.getElem?_take] at ho
  split at ho
  · exact h i o ho
  · cases ho
theorem Sps.all {w w' : World} {v : Value} {l : List S3} (h : Sps w v l) (hb : Below w.heap.size w w') : Sps w' v l := by
  rcases h with h | ⟨b, off, cap, rfl, hcap, hlt, hc⟩
  · exact Or.inl h
  · exact Or.inr ⟨b, off, cap, rfl, hcap, Nat.lt_of_lt_of_le hlt hb.size, hc.below hb hlt⟩
theorem Sps.form {w : World} {v : Value} {l : List S3} (h : Sps w v l) : ∃ ao cap, v = .slice ao l.length cap := by
  rcases h with ⟨rfl, ao, cap, rfl⟩ | ⟨b, off, cap, rfl, _⟩
  · exact ⟨ao, cap, rfl⟩
  · exact ⟨_, cap, rfl⟩
theorem fidx_hit {α : Type} {p : α → Bool} : ∀ {l : List α} {k : Nat} {o : α}, (∀ i x, i < k → l[i]? = some x → p x = false) → l[k]? = some o → p o = true → l.findIdx? p = some k
  | [], k, o, _, h, _ => by simp at h
  | x :: l, 0, o, _, h, hp => by simp at h; subst h; simp [List.findIdx?_cons, hp]
  | x :: l, k + 1, o, h0, h, hp => by
    have hx : p x = false := h0 0 x (by omega) rfl
    have := fidx_hit (l := l) (k := k) (o := o) (fun i y hi hy => h0 (i + 1) y (by omega) (by simpa using hy)) (by simpa using h) hp
    simp [List.findIdx?_cons, hx, this]
theorem fidx_miss {α : Type} {p : α → Bool} {l : List α} (h : ∀ (i : Nat) x, i < l.length → l[i]? = some x → p x = false) : l.findIdx? p = none := by
  rw [List.findIdx?_eq_none_iff]
  intro x hx
  obtain ⟨i, hi, rfl⟩ := List.getElem_of_mem hx
  exact h i _ hi (by simp [hi])

set_option maxRecDepth 100000 in
set_option maxHeartbeats 1000000 in
theorem isRoom_any (r : Int) (w : World) : Calls Tryz.prog 62 #[.int .i64 r] w fun e w' => e = .returned (.bool (decide (0 ≤ r) && decide (r < 5))) ∧ Below w.heap.size w w' := by
  by_cases h : 0 ≤ r
  · by_cases h2 : r < 5
    · go_enter Tryz.func62, Tryz.ntmps62
      go_wp2
      go_ret
      exact ⟨retB (by simp <;> omega), Below.refl _ _⟩
    · have h2' : decide (r < 5) = false := by simpa using h2
      go_enter Tryz.func62, Tryz.ntmps62
      go_wp2
      go_ret
      exact ⟨retB (by simp <;> omega), Below.refl _ _⟩
  · have h' : decide (0 ≤ r) = false := by simpa using h
    go_enter Tryz.func62, Tryz.ntmps62
    go_wp2
    go_ret
    exact ⟨retB (by simp <;> omega), Below.refl _ _⟩

set_option maxRecDepth 100000 in
set_option maxHeartbeats 1000000 in
theorem ffits_any (s : S3) (n : Int) (w : World) : Calls Tryz.prog 43 #[.agg #[.int .i64 s.1, .int .i64 s.2.1, .int .i64 s.2.2], .int .i64 n] w fun e w' => e = .returned (.bool (spOk n s)) ∧ Below w.heap.size w w' := by
  obtain ⟨a, b, r⟩ := s
  simp only
  have hr := fun W => isRoom_any r W
  by_cases h1 : 0 ≤ a
  · by_cases h2 : a < b
    · by_cases h3 : b ≤ n
      · have HF : Hid (spOk n (a, b, r) = (decide (0 ≤ r) && decide (r < 5))) := by show _ = _; simp [spOk, h1, h2, h3]
        go_enter Tryz.func43, Tryz.ntmps43
        go_wp2_with (go_at_call 62; refine (hr _).mono ?_; rintro e w1 ⟨rfl, b1⟩; clear hr)
        go_ret
        exact ⟨retB HF.out.symm, ((Below.refl _ _).alloc (Nat.le_refl _) _).trans (b1.mono (by simp))⟩
      · have h3' : decide (b ≤ n) = false := by simpa using h3
        have HF : Hid (spOk n (a, b, r) = false) := by show _ = _; simp [spOk, h3]
        clear hr
        go_enter Tryz.func43, Tryz.ntmps43
        go_wp2
        go_ret
        exact ⟨retB HF.out.symm, (Below.refl _ _).alloc (Nat.le_refl _) _⟩
    · have h2' : decide (a < b) = false := by simpa using h2
      have HF : Hid (spOk n (a, b, r) = false) := by show _ = _; simp [spOk, h2]
      clear hr
      go_enter Tryz.func43, Tryz.ntmps43
      go_wp2
      go_ret
      exact ⟨retB HF.out.symm, (Below.refl _ _).alloc (Nat.le_refl _) _⟩
  · have h1' : decide (0 ≤ a) = false := by simpa using h1
    have HF : Hid (spOk n (a, b, r) = false) := by show _ = _; simp [spOk, h1]
    clear hr
    go_enter Tryz.func43, Tryz.ntmps43
    go_wp2
    go_ret
    exact ⟨retB HF.out.symm, (Below.refl _ _).alloc (Nat.le_refl _) _⟩
end Go.Proofs.YteejpehfmnjgfagGreatDoor
namespace Go.Proofs.YteejpehfmnjgfagGreatDoor
open Go.RowKit

/-- The cells of spans, one behind the other. -/
def spCells (l : List S3) : List Value := l.flatMap fun o => [.int .i64 o.1, .int .i64 o.2.1, .int .i64 o.2.2]
theorem spCells_snoc (l : List S3) (o : S3) : spCells (l ++ [o]) = spCells l ++ [.int .i64 o.1, .int .i64 o.2.1, .int .i64 o.2.2] := by simp [spCells]
theorem spCells_at : ∀ (l : List S3) (i : Nat) (o : S3), l[i]? = some o → (spCells l)[i * 3]? = some (.int .i64 o.1) ∧ (spCells l)[i * 3 + 1]? = some (.int .i64 o.2.1) ∧ (spCells l)[i * 3 + 2]? = some (.int .i64 o.2.2)
  | [], i, o, h => by simp at h
  | x :: l, 0, o, h => by
    simp at h
    subst h
    simp [spCells]
  | x :: l, i + 1, o, h => by
    have := spCells_at l i o (by simpa using h)
    have e : spCells (x :: l) = [.int .i64 x.1, .int .i64 x.2.1, .int .i64 x.2.2] ++ spCells l := by simp [spCells]
    rw [e]
    refine ⟨?_, ?_, ?_⟩
    · rw [List.getElem?_append_right (by simp; omega)]
      simpa [show (i + 1) * 3 - 3 = i * 3 by omega] using this.1
    · rw [List.getElem?_append_right (by simp; omega)]
      simpa [show (i + 1) * 3 + 1 - 3 = i * 3 + 1 by omega] using this.2.1
    · rw [List.getElem?_append_right (by simp; omega)]
      simpa [show (i + 1) * 3 + 2 - 3 = i * 3 + 2 by omega] using this.2.2
theorem sps_of_own {w : World} {base : Nat} {v : Value} {l : List S3} (h : w.ownsRow base 58 3 v l.length (spCells l)) : Sps w v l := by
  have hl := h.lt
  have hcs := @World.ownsRow.cells _ _ _ _ _ _ _ h
  rcases h.2 with ⟨rfl, h0⟩ | ⟨g, cap, cur, rfl, _, _, hcap, _⟩
  · exact Or.inl ⟨List.eq_nil_of_length_eq_zero h0, _, _, rfl⟩
  · have hat : ∀ j u, (spCells l)[j]? = some u → w.cell? ⟨g, j, none⟩ = some u := fun j u hu => by
      have := hcs rfl j u hu
      unfold Addr.add at this
      split at this
      · rename_i h0; subst h0; exact this
      · simpa using this
    refine Or.inr ⟨g, 0, cap, rfl, hcap, (hl g rfl).2, fun i o ho => ?_⟩
    obtain ⟨h1, h2, h3⟩ := spCells_at l i o ho
    exact ⟨by simpa using hat _ _ h1, by simpa using hat _ _ h2, by simpa using hat _ _ h3⟩
theorem own_apart {w : World} {b1 b2 : Nat} {e1 e2 : TypeId} {s1 s2 : Nat} {v1 v2 : Value} {n1 n2 : Nat} {x1 x2 : List Value} (he : e1 ≠ e2) (h1 : w.ownsRow b1 e1 s1 v1 n1 x1) (h2 : w.ownsRow b2 e2 s2 v2 n2 x2) : v1.ownBlock = none ∨ v1.ownBlock ≠ v2.ownBlock := by
  rcases h1.2 with ⟨rfl, _⟩ | ⟨g1, c1, u1, rfl, _, hb1, _⟩
  · exact Or.inl rfl
  · rcases h2.2 with ⟨rfl, _⟩ | ⟨g2, c2, u2, rfl, _, hb2, _⟩
    · exact Or.inr (by simp [Value.ownBlock])
    · refine Or.inr fun e => ?_
      simp only [Value.ownBlock, Option.some.injEq] at e
      subst e
      rw [hb1] at hb2
      simp only [Option.some.injEq, Obj.cells.injEq] at hb2
      exact he hb2.2.1
theorem own_succ {W : World} {base : Nat} {e : TypeId} {size : Nat} {v : Value} {k : Nat} {xs : List Value} (h : W.ownsRow base e size v (k + 1) xs) : ∃ g cap, v = .slice (some ⟨g, 0, none⟩) (k + 1) cap := by
  rcases h.2 with ⟨_, h0⟩ | ⟨g, cap, cur, h1, _⟩
  · omega
  · exact ⟨g, cap, h1⟩
theorem own_form {w : World} {base : Nat} {e : TypeId} {size : Nat} {v : Value} {n : Nat} {xs : List Value} (R : w.ownsRow base e size v n xs) : ∃ g n' cap, v = .slice g n' cap := by
  rcases R.2 with ⟨h, _⟩ | ⟨g, cap, cur, h, _⟩
  · exact ⟨_, _, _, h⟩
  · exact ⟨_, _, _, h⟩
theorem infoOps : (Tryz.prog.info? 62).map (fun i => (i.zero, i.size, i.bytes)) = some (some (.slice none 0 0), 1, 24) := by kernel_rfl
theorem infoSp : (Tryz.prog.info? 58).map (fun i => (i.zero, i.size, i.bytes)) = some (some (.agg #[.int .i64 0, .int .i64 0, .int .i64 0]), 3, 24) := by kernel_rfl
theorem box_grown {W W' : World} {row : Option Nat} (hg : W.grownBy W' row) {b : Nat} (hb : b < W.heap.size) (hne : some b ≠ row) : (∀ o, W'.cell? ⟨b, o, none⟩ = W.cell? ⟨b, o, none⟩) ∧ (∀ o, W'.frozen? ⟨b, o, none⟩ = W.frozen? ⟨b, o, none⟩) :=
  ⟨fun o => World.cell?_of_block (a := ⟨b, o, none⟩) (hg.block b hb hne), fun o => World.frozen?_of_block (a := ⟨b, o, none⟩) (hg.block b hb hne)⟩
theorem sp_new (w : World) (x y z : Value) (t : TypeId) : ∀ j u, [x, y, z][j]? = some u → (w.alloc (.cells #[x, y, z] t)).cell? ((⟨w.heap.size, 0, none⟩ : Addr).add j) = some u := by
  intro j u hj
  match j, hj with
  | 0, hj => simp at hj; subst hj; simp [Addr.add]
  | 1, hj => simp at hj; subst hj; simp [Addr.add]
  | 2, hj => simp at hj; subst hj; simp [Addr.add]
end Go.Proofs.YteejpehfmnjgfagGreatDoor
namespace Go.Proofs.YteejpehfmnjgfagGreatDoor
open Go.RowKit

set_option maxRecDepth 100000 in
set_option maxHeartbeats 1000000 in
theorem refframe_ticks (n : Int) (v : Value) (w : World) (h : n < 1 ∨ 40 < n) :
    Calls Tryz.prog 13 #[.int .i64 n, v] w fun e w' => e = .returned (.tuple #[.int .i64 0, .int .i64 1]) ∧ Below w.heap.size w w' := by
  by_cases h1 : n < 1
  · go_enter Tryz.func13, Tryz.ntmps13
    go_wp2
    go_ret2
    exact ⟨rfl, Below.refl _ _⟩
  · have h1' : decide (n < 1) = false := by simpa using h1
    have h2 : 40 < n := by omega
    go_enter Tryz.func13, Tryz.ntmps13
    go_wp2
    go_ret2
    exact ⟨rfl, Below.refl _ _⟩
set_option maxRecDepth 100000 in
set_option maxHeartbeats 1000000 in
theorem refframe_long (n : Int) (ao : Option Addr) (m cap : Nat) (w : World) (h1 : ¬ n < 1) (h2 : ¬ 40 < n) (hm : 12 < m) :
    Calls Tryz.prog 13 #[.int .i64 n, .slice ao m cap] w fun e w' => e = .returned (.tuple #[.int .i64 0, .int .i64 4]) ∧ Below w.heap.size w w' := by
  have h1' : decide (n < 1) = false := by simpa using h1
  have h2' : decide (40 < n) = false := by simpa using h2
  go_enter Tryz.func13, Tryz.ntmps13
  go_wp2
  go_ret2
  exact ⟨rfl, Below.refl _ _⟩
set_option maxRecDepth 100000 in
set_option maxHeartbeats 1000000 in
theorem refframe_nil (n : Int) (ao : Option Addr) (cap : Nat) (w : World) (h1 : ¬ n < 1) (h2 : ¬ 40 < n) :
    Calls Tryz.prog 13 #[.int .i64 n, .slice ao 0 cap] w fun e w' => e = .returned (.tuple #[.int .i64 0, .int .i64 0]) ∧ Below w.heap.size w w' := by
  have h1' : decide (n < 1) = false := by simpa using h1
  have h2' : decide (40 < n) = false := by simpa using h2
  go_enter Tryz.func13, Tryz.ntmps13
  go_wp2
  refine wp_loop_rounds 1 ?_
  rw [rounds_succ]
  go_wp2
  go_ret2
  exact ⟨rfl, Below.refl _ _⟩
theorem any_take {α : Type} {p : α → Bool} {l : List α} {k : Nat} {o : α} (h : l[k]? = some o) : (l.take (k + 1)).any p = ((l.take k).any p || p o) := by
  obtain ⟨hk, rfl⟩ := List.getElem?_eq_some_iff.1 h
  rw [List.take_succ_eq_append_getElem hk, List.any_append]
  simp
theorem ret_two_f {a b c d : Int} (h : (a, b) = (c, d)) : Ending.returned (.tuple #[.int .i64 c, .int .i64 d]) = .returned (.tuple #[.int .i64 a, .int .i64 b]) := by
  simp only [Prod.mk.injEq] at h
  rw [h.1, h.2]

set_option maxRecDepth 1000000 in
set_option maxHeartbeats 8000000 in
theorem refframe_mid (n : Int) (l : List S3) (b off cap : Nat) (w : World) (h1 : ¬ n < 1) (h2 : ¬ 40 < n) (hl : ¬ 12 < l.length) (hlt : b < w.heap.size) (hc : SpC w b off l) :
    Calls Tryz.prog 13 #[.int .i64 n, .slice (some ⟨b, off, none⟩) l.length cap] w fun e w' => e = .returned (.tuple #[.int .i64 (scan (badAt n l) l.length 0).1, .int .i64 (scan (badAt n l) l.length 0).2]) ∧ Below w.heap.size w w' := by
  have h1' : decide (n < 1) = false := by simpa using h1
  have h2' : decide (40 < n) = false := by simpa using h2
  have h3' : decide (12 < l.length) = false := by simpa using hl
  obtain ⟨R, hR⟩ : ∃ R, R = scan (badAt n l) l.length 0 := ⟨_, rfl⟩
  rw [← hR]
  have HR : Hid (R = scan (badAt n l) l.length 0) := hR
  clear hR
  go_enter Tryz.func13, Tryz.ntmps13
  go_wp2
  go_loopw [6] (fun i wr => ∃ k : Nat, k ≤ l.length ∧ i = .int .i64 k ∧ Hid (scan (badAt n l) l.length 0 = scan (badAt n l) (l.length - k) k) ∧ Below w.heap.size w wr) (fun i _ => l.length - (intOf i).toNat)
  case atStart => exact ⟨0, Nat.zero_le _, rfl, rfl, Below.refl _ _⟩
  case round =>
    rename World => wo
    obtain ⟨k, hk, rfl, HS, hb⟩ := hrel
    by_cases hkl : k < l.length
    · obtain ⟨o, ho⟩ : ∃ o, l[k]? = some o := ⟨l[k], List.getElem?_eq_getElem hkl⟩
      have HO : Hid (l[k]? = some o) := ho
      obtain ⟨c0, c1, c2⟩ := hc.below hb hlt k o ho
      clear ho
      have hki : (k : Int) < (l.length : Int) := by omega
      have bA : Below wo.heap.size wo (wo.alloc (.cells #[.int .i64 o.1, .int .i64 o.2.1, .int .i64 o.2.2] 58)) := (Below.refl _ _).alloc (Nat.le_refl _) _
      have hbA := hb.trans (bA.mono hb.size)
      by_cases hok : spOk n o = true
      · have HK : Hid (spOk n o = true) := hok
        have hok2 : 0 ≤ o.1 ∧ o.1 < o.2.1 ∧ o.2.1 ≤ n ∧ 0 ≤ o.2.2 ∧ o.2.2 < 5 := by simpa [spOk] using hok
        obtain ⟨p1, p2, p3, p4, p5⟩ := hok2
        have q1 : decide (o.1 < 0) = false := by simp; omega
        have q2 : decide (o.2.1 ≤ o.1) = false := by simp; omega
        have q3 : decide (n < o.2.1) = false := by simp; omega
        have q4 : decide (o.2.2 < 0) = false := by simp; omega
        have q5 : decide (4 < o.2.2) = false := by simp; omega
        clear hok p1 p2 p3 p4 p5
        go_wp2
        have HB : Hid (Below wo.heap.size wo (wo.alloc (.cells #[.int .i64 o.1, .int .i64 o.2.1, .int .i64 o.2.2] 58))) := bA
        have HC : Hid (SpC wo b off l) := hc.below hb hlt
        have hlt' : b < wo.heap.size := Nat.lt_of_lt_of_le hlt hb.size
        clear c0 c1 c2 bA q1 q2 q3 q4 q5
        go_loopw [8] (fun i wx => ∃ j : Nat, j ≤ k ∧ i = .int .i64 j ∧ Hid ((l.take j).any (clashB o) = false) ∧ Below (wo.heap.size + 1) (wo.alloc (.cells #[.int .i64 o.1, .int .i64 o.2.1, .int .i64 o.2.2] 58)) wx) (fun i _ => k - (intOf i).toNat)
        case atStart => exact ⟨0, Nat.zero_le _, rfl, by show _ = _; simp, Below.refl _ _⟩
        case round =>
          obtain ⟨j, hj, rfl, HJ, hx⟩ := hrel
          have hbx : Below w.heap.size w wr := hbA.trans (hx.mono (by have := hb.size; omega))
          by_cases hjk : j < k
          · obtain ⟨p, hp⟩ : ∃ p, l[j]? = some p := ⟨l[j]'(by omega), List.getElem?_eq_getElem (by omega)⟩
            have HP : Hid (l[j]? = some p) := hp
            obtain ⟨c0, c1, c2⟩ := ((HC.out.below HB.out hlt').below hx (by omega)) j p hp
            clear hp
            have k0 : wr.cell? ⟨wo.heap.size, 0, none⟩ = some (.int .i64 o.1) := (hx.cell (p := ⟨wo.heap.size, 0, none⟩) (by simp)).trans (by simp)
            have k1 : wr.cell? ⟨wo.heap.size, 1, none⟩ = some (.int .i64 o.2.1) := (hx.cell (p := ⟨wo.heap.size, 1, none⟩) (by simp)).trans (by simp)
            have hji : (j : Int) < (k : Int) := by omega
            have hjl : (j : Int) < (l.length : Int) := by omega
            by_cases g1 : p.1 < o.2.1
            · have g1' : decide (p.1 < o.2.1) = true := by simpa using g1
              by_cases g2 : o.1 < p.2.1
              · have g2' : decide (o.1 < p.2.1) = true := by simpa using g2
                have HF : Hid (R = ((k : Int), 7)) := by
                  have han : (l.take k).any (clashB o) = true := by
                    rw [List.any_eq_true]
                    exact ⟨p, List.mem_take_iff_getElem.2 ⟨j, by omega, (List.getElem?_eq_some_iff.1 HP.out).2⟩, by simp [clashB, g1, g2]⟩
                  have e := badOf_clash HK.out han
                  show _ = _
                  rw [HR.out, scan_hit hkl HS.out (by rw [badAt_some HO.out, e]; decide), badAt_some HO.out, e]
                clear HJ
                go_wp2
                go_quiet (fail)
                go_wp2
                go_ret2
                rw [HF.out]
                exact ⟨rfl, below_drewN hbx _⟩
              · have g2' : decide (o.1 < p.2.1) = false := by simpa using g2
                have HF : Hid ((l.take (j + 1)).any (clashB o) = false) := by
                  show _ = _
                  rw [any_take HP.out, HJ.out]
                  simp [clashB, g2]
                clear HJ
                go_wp2
                go_quiet (fail)
                go_wp2
                go_roundw
                case rel => exact ⟨j + 1, by omega, by go_num, HF.out, below_drewN hx _⟩
                case measure => simp [intOf]; omega
            · have g1' : decide (p.1 < o.2.1) = false := by simpa using g1
              have HF : Hid ((l.take (j + 1)).any (clashB o) = false) := by
                show _ = _
                rw [any_take HP.out, HJ.out]
                simp [clashB, g1]
              clear HJ
              go_wp2
              go_quiet (fail)
              go_wp2
              go_roundw
              case rel => exact ⟨j + 1, by omega, by go_num, HF.out, below_drewN hx _⟩
              case measure => simp [intOf]; omega
          · obtain rfl : j = k := by omega
            have HF : Hid (scan (badAt n l) l.length 0 = scan (badAt n l) (l.length - (j + 1)) (j + 1)) := by
              show _ = _
              exact scan_next hkl HS.out (by rw [badAt_some HO.out]; exact badOf_none HK.out HJ.out)
            clear HS HJ
            go_wp2
            go_roundw
            case rel => exact ⟨j + 1, by omega, by go_num, HF.out, hbx⟩
            case measure => simp [intOf]; omega
      · have hok' : spOk n o = false := by simpa using hok
        have HF : Hid (R = ((k : Int), 1)) := by
          have e := badOf_range (l := l.take k) hok'
          show _ = _
          rw [HR.out, scan_hit hkl HS.out (by rw [badAt_some HO.out, e]; decide), badAt_some HO.out, e]
        have hno : ¬ (0 ≤ o.1 ∧ o.1 < o.2.1 ∧ o.2.1 ≤ n ∧ 0 ≤ o.2.2 ∧ o.2.2 < 5) := by simpa [spOk] using hok
        clear hok hok' HS HR
        by_cases p1 : o.1 < 0
        · go_wp2
          go_ret2
          rw [HF.out]
          exact ⟨rfl, hbA⟩
        have q1 : decide (o.1 < 0) = false := by simpa using p1
        by_cases p2 : o.2.1 ≤ o.1
        · go_wp2
          go_ret2
          rw [HF.out]
          exact ⟨rfl, hbA⟩
        have q2 : decide (o.2.1 ≤ o.1) = false := by simpa using p2
        by_cases p3 : n < o.2.1
        · go_wp2
          go_ret2
          rw [HF.out]
          exact ⟨rfl, hbA⟩
        have q3 : decide (n < o.2.1) = false := by simpa using p3
        by_cases p4 : o.2.2 < 0
        · go_wp2
          go_ret2
          rw [HF.out]
          exact ⟨rfl, hbA⟩
        have q4 : decide (o.2.2 < 0) = false := by simpa using p4
        have p5 : 4 < o.2.2 := by omega
        go_wp2
        go_ret2
        rw [HF.out]
        exact ⟨rfl, hbA⟩
    · obtain rfl : k = l.length := by omega
      have HF : Hid (R = (0, 0)) := by
        show _ = _
        rw [HR.out]
        exact scan_end HS.out
      clear HS
      go_wp2
      go_ret2
      rw [HF.out]
      exact ⟨rfl, hb⟩
theorem refframe_any (n : Int) (l : List S3) (v : Value) (w : World) (hl : Sps w v l) :
    Calls Tryz.prog 13 #[.int .i64 n, v] w fun e w' => e = .returned (.tuple #[.int .i64 (fchk n l).1, .int .i64 (fchk n l).2]) ∧ Below w.heap.size w w' := by
  by_cases h1 : n < 1 ∨ 40 < n
  · rw [fchk_lo h1]
    exact refframe_ticks n v w h1
  rcases hl with ⟨rfl, ao, cap, rfl⟩ | ⟨b, off, cap, rfl, hcap, hlt, hc⟩
  · rw [fchk_mid h1 (by simp)]
    exact refframe_nil n ao cap w (by omega) (by omega)
  · by_cases h2 : 12 < l.length
    · rw [fchk_long h1 h2]
      exact refframe_long n _ _ cap w (by omega) (by omega) h2
    · rw [fchk_mid h1 h2]
      exact refframe_mid n l b off cap w (by omega) (by omega) h2 hlt hc
end Go.Proofs.YteejpehfmnjgfagGreatDoor
namespace Go.Proofs.YteejpehfmnjgfagGreatDoor
open Go.RowKit

set_option maxRecDepth 1000000 in
set_option maxHeartbeats 4000000 in
theorem refwho_some (n : Int) (l : List S3) (b off cap : Nat) (t : Int) (w : World) (hn0 : 1 ≤ n) (hn1 : n ≤ 40) (ht : 0 ≤ t) (hlen : l.length ≤ 12) (hlt : b < w.heap.size) (hc : SpC w b off l) :
    Calls Tryz.prog 23 #[.int .i64 n, .slice (some ⟨b, off, none⟩) l.length cap, .int .i64 t] w fun e w' => e = .returned (.int .i64 (hold l (t % n))) ∧ Below w.heap.size w w' := by
  have hn' : ¬ n = 0 := by omega
  go_enter Tryz.func23, Tryz.ntmps23
  go_wp2
  go_loopw [7] (fun i wr => ∃ k : Nat, k ≤ l.length ∧ i = .int .i64 k ∧ Hid (hold l (t % n) = hold (l.drop k) (t % n)) ∧ Below w.heap.size w wr) (fun i _ => l.length - (intOf i).toNat)
  case atStart => exact ⟨0, Nat.zero_le _, rfl, by show _ = _; simp, Below.refl _ _⟩
  case round =>
    obtain ⟨k, hk, rfl, HS, hb⟩ := hrel
    by_cases hkl : k < l.length
    · obtain ⟨o, ho⟩ : ∃ o, l[k]? = some o := ⟨l[k], List.getElem?_eq_getElem hkl⟩
      have HD : Hid (hold l (t % n) = if hits (t % n) o = true then o.2.2 else hold (l.drop (k + 1)) (t % n)) := HS.out.trans (hold_drop ho)
      obtain ⟨c0, c1, c2⟩ := hc.below hb hlt k o ho
      clear ho HS
      have hki : (k : Int) < (l.length : Int) := by omega
      by_cases h1 : o.1 ≤ t % n
      · by_cases h2 : t % n < o.2.1
        · have HF : Hid (hold l (t % n) = o.2.2) := by show _ = _; rw [HD.out, if_pos (by simp [hits, h1, h2])]
          have h1' : decide (o.1 ≤ t % n) = true := by simpa using h1
          have h2' : decide (t % n < o.2.1) = true := by simpa using h2
          clear HD
          go_wp2
          go_quiet (fail)
          go_wp2
          go_ret
          exact ⟨retI HF.out.symm, below_drewN hb _⟩
        · have HF : Hid (hold l (t % n) = hold (l.drop (k + 1)) (t % n)) := by show _ = _; rw [HD.out, if_neg (by simp [hits, h2])]
          have h1' : decide (o.1 ≤ t % n) = true := by simpa using h1
          have h2' : decide (t % n < o.2.1) = false := by simpa using h2
          clear HD
          go_wp2
          go_quiet (fail)
          go_wp2
          go_roundw
          case rel => exact ⟨k + 1, by omega, by go_num, HF.out, below_drewN hb _⟩
          case measure => simp [intOf]; omega
      · have HF : Hid (hold l (t % n) = hold (l.drop (k + 1)) (t % n)) := by show _ = _; rw [HD.out, if_neg (by simp [hits, h1])]
        have h1' : decide (o.1 ≤ t % n) = false := by simpa using h1
        clear HD
        go_wp2
        go_quiet (fail)
        go_wp2
        go_roundw
        case rel => exact ⟨k + 1, by omega, by go_num, HF.out, below_drewN hb _⟩
        case measure => simp [intOf]; omega
    · obtain rfl : k = l.length := by omega
      have HF : Hid (hold l (t % n) = -1) := by show _ = _; rw [HS.out, List.drop_length]; rfl
      clear HS
      go_wp2
      go_ret
      exact ⟨retI HF.out.symm, hb⟩
set_option maxRecDepth 100000 in
set_option maxHeartbeats 2000000 in
theorem refwho_nil (n : Int) (ao : Option Addr) (cap : Nat) (t : Int) (w : World) :
    Calls Tryz.prog 23 #[.int .i64 n, .slice ao 0 cap, .int .i64 t] w fun e w' => e = .returned (.int .i64 (-1)) ∧ Below w.heap.size w w' := by
  go_enter Tryz.func23, Tryz.ntmps23
  go_wp2
  refine wp_loop_rounds 1 ?_
  rw [rounds_succ]
  go_wp2
  go_ret
  exact ⟨rfl, Below.refl _ _⟩
theorem refwho_any (n : Int) (l : List S3) (v : Value) (t : Int) (w : World) (hl : Sps w v l) (hn0 : 1 ≤ n) (hn1 : n ≤ 40) (ht : 0 ≤ t) (hlen : l.length ≤ 12) :
    Calls Tryz.prog 23 #[.int .i64 n, v, .int .i64 t] w fun e w' => e = .returned (.int .i64 (hold l (t % n))) ∧ Below w.heap.size w w' := by
  rcases hl with ⟨rfl, ao, cap, rfl⟩ | ⟨b, off, cap, rfl, _, hlt, hc⟩
  · exact refwho_nil n ao cap t w
  · exact refwho_some n l b off cap t w hn0 hn1 ht hlen hlt hc
end Go.Proofs.YteejpehfmnjgfagGreatDoor
