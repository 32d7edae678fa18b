/-
  EBase, WMath, WVal, WStp, RowL, RdL, IntsL, WSame, Law, WOpen, WRefL: joined into one text.
-/
import Derived.Test.YtfconbblnmbnpacDoorRows
import Derived.WalkKit
import Derived.Deep.QuietTactic
import Derived.ProofKit
import Derived.LaidMore
import Derived.OpenShut
import Derived.Carry
import Derived.Stop.Joined
import Derived.Lib.SmallJoins
import Derived.Deep.Slices
import Derived.BigQuiet
namespace Go.Proofs.YtfconbblnmbnpacDoor
open Go.RowKit

theorem wlt {w : World} {b o : Nat} {v : Value} (h : w.cell? ⟨b, o, none⟩ = some v) : b < w.heap.size := by
  rcases Nat.lt_or_ge b w.heap.size with h' | h'
  · exact h'
  · simp [World.cell?, Array.getElem?_eq_none h'] at h
theorem below_dN {B : Nat} {w w' : World} (h : Below B w w') : ∀ n, Below B w (w'.drewN n)
  | 0 => h
  | n + 1 => (below_dN h n).drew
/-- An error as a value. -/
def wErr (e : Int) : Value := if e = 0 then .nilIface else .iface 61 (.int .i64 e)
theorem wErr_not {e : Int} (h : e ≠ 0) : wErr e = .iface 61 (.int .i64 e) := by simp [wErr, h]
theorem wretB {a b : Bool} (h : a = b) : Ending.returned (.bool a) = .returned (.bool b) := by rw [h]
theorem wretI {k : IntKind} {a b : Int} (h : a = b) : Ending.returned (.int k a) = .returned (.int k b) := by rw [h]
end Go.Proofs.YtfconbblnmbnpacDoor
namespace Go.Proofs.YtfconbblnmbnpacDoor

/-- How deep a wire of a kind may be. -/
def dpst (k : Int) : Int := if k = 1 then 1 else if k = 2 then 6 else 0
/-- What is wrong with a wire. -/
def wchk (f t k d : Int) : Int :=
  if 0 ≤ f ∧ f < 5 ∧ 0 ≤ t ∧ t < 5 ∧ 1 ≤ d ∧ d ≤ dpst k then (if f = t then 3 else 0) else 1
theorem wchk_kind {f t k d : Int} (h : wchk f t k d = 0) : (k = 1 ∧ d = 1) ∨ (k = 2 ∧ 1 ≤ d ∧ d ≤ 6) := by
  unfold wchk dpst at h
  by_cases h1 : k = 1
  · subst h1
    simp at h
    omega
  · by_cases h2 : k = 2
    · subst h2
      simp at h
      omega
    · simp [h1, h2] at h
      omega
/-- Numbers from one on, so many. -/
def rng (a : Int) (n : Nat) : List Int := (List.range n).map fun (i : Nat) => a + (i : Int)
theorem rng_len (a : Int) (n : Nat) : (rng a n).length = n := by simp [rng]
theorem rng_snoc (a : Int) (n : Nat) : rng a (n + 1) = rng a n ++ [a + n] := by simp [rng, List.range_succ]
theorem rng_zero (a : Int) : rng a 0 = [] := rfl
theorem rng_cons (a : Int) (n : Nat) : rng a (n + 1) = a :: rng (a + 1) n := by
  unfold rng
  rw [List.range_succ_eq_map]
  simp only [List.map_cons, List.map_map]
  refine congr (congrArg _ (by simp)) (List.map_congr_left fun i _ => ?_)
  simp
  omega
end Go.Proofs.YtfconbblnmbnpacDoor
namespace Go.Proofs.YtfconbblnmbnpacDoor
open Go.RowKit

/-- A wire as a value. -/
def wV (f t k d : Int) : Value := .agg #[.int .i64 f, .int .i64 t, .int .i64 k, .int .i64 d]
end Go.Proofs.YtfconbblnmbnpacDoor
namespace Go.Proofs.YtfconbblnmbnpacDoor
open Go.RowKit

/-- Steps that came in. -/
def Stp (w : World) (v : Value) (l : List Int) : Prop := (l = [] ∧ ∃ ao cap, v = .slice ao 0 cap) ∨ ∃ b off cap, v = .slice (some ⟨b, off, none⟩) l.length cap ∧ b < w.heap.size ∧ ∀ (i : Nat) x, l[i]? = some x → w.cell? ⟨b, off + i, none⟩ = some (.int .i64 x)
theorem Stp.form {w : World} {v : Value} {l : List Int} (h : Stp w v l) : ∃ ao cap, v = .slice ao l.length cap := by
  rcases h with ⟨rfl, ao, cap, rfl⟩ | ⟨b, off, cap, rfl, _⟩
  · exact ⟨ao, cap, rfl⟩
  · exact ⟨_, cap, rfl⟩
theorem Stp.at {w wr : World} {ao : Option Addr} {cap : Nat} {l : List Int} (h : Stp w (.slice ao l.length cap) l) (hb : Below w.heap.size w wr) {i : Nat} (hi : i < l.length) : ∃ b off x, ao = some ⟨b, off, none⟩ ∧ wr.cell? ⟨b, off + i, none⟩ = some (.int .i64 x) ∧ l[i]? = some x := by
  rcases h with ⟨rfl, _⟩ | ⟨b, off, cap', e, hlt, hc⟩
  · simp at hi
  · injection e with e1
    exact ⟨b, off, l[i], e1, (hb.cell (p := ⟨b, _, none⟩) hlt).trans (hc i _ (List.getElem?_eq_getElem hi)), List.getElem?_eq_getElem hi⟩
theorem Stp.at0 {w : World} {ao : Option Addr} {cap : Nat} {l : List Int} (h : Stp w (.slice ao l.length cap) l) {i : Nat} (hi : i < l.length) : ∃ b off x, ao = some ⟨b, off, none⟩ ∧ b < w.heap.size ∧ w.cell? ⟨b, off + i, none⟩ = some (.int .i64 x) := by
  rcases h with ⟨rfl, _⟩ | ⟨b, off, cap', e, hlt, hc⟩
  · simp at hi
  · injection e with e1
    exact ⟨b, off, l[i], e1, hlt, hc i _ (List.getElem?_eq_getElem hi)⟩
theorem Stp.every {w w' : World} {v : Value} {l : List Int} (h : Stp w v l) (hb : Below w.heap.size w w') : Stp w' v l := by
  rcases h with h | ⟨b, off, cap, rfl, hlt, hc⟩
  · exact Or.inl h
  · exact Or.inr ⟨b, off, cap, rfl, Nat.lt_of_lt_of_le hlt hb.size, fun i x hx => (hb.cell (p := ⟨b, _, none⟩) hlt).trans (hc i x hx)⟩
end Go.Proofs.YtfconbblnmbnpacDoor
namespace Go.Proofs.YtfconbblnmbnpacDoor
open Go.RowKit
/-- Numbers as cells. -/
def ints (xs : List Int) : List Value := xs.map (Value.int .i64)
theorem ints_snoc (xs : List Int) (n : Int) : ints (xs ++ [n]) = ints xs ++ [.int .i64 n] := by simp [ints]
theorem ints_len (xs : List Int) : (ints xs).length = xs.length := by simp [ints]
theorem ints_at {xs : List Int} {i : Nat} {x : Int} (h : xs[i]? = some x) : (ints xs)[i]? = some (.int .i64 x) := by simp [ints, h]
/-- A row is as it was where its block is. -/
theorem own_block {w w' : World} {base : Nat} {e : TypeId} {size : Nat} {v : Value} {n : Nat} {xs : List Value} (h : w.ownsRow base e size v n xs) (hb : ∀ k, v.ownBlock = some k → w'.heap[k]? = w.heap[k]?) : w'.ownsRow base e size v n xs := by
  refine ⟨h.1, ?_⟩
  rcases h.2 with h2 | ⟨g, cap, cur, rfl, h3, h4, r⟩
  · exact Or.inl h2
  · exact Or.inr ⟨g, cap, cur, rfl, h3, (hb g rfl).trans h4, r⟩
theorem own_below {w w' : World} {base B : Nat} {e : TypeId} {size : Nat} {v : Value} {n : Nat} {xs : List Value} (h : w.ownsRow base e size v n xs) (hb : Below B w w') (hB : w.heap.size ≤ B) : w'.ownsRow base e size v n xs :=
  own_block h fun k hk => hb.block k (by have := (h.lt k hk).2; omega)
/-- A row that is cut. -/
theorem own_cut {w : World} {base : Nat} {e : TypeId} {g n cap k : Nat} {xs : List Value} (h : w.ownsRow base e 1 (.slice (some ⟨g, 0, none⟩) n cap) n xs) (hk : k ≤ n) : w.ownsRow base e 1 (.slice (some ⟨g, 0, none⟩) k cap) k (xs.take k) := by
  rcases h.2 with ⟨h2, _⟩ | ⟨g', cap', cur, e0, h3, h4, h5, h6, h7, h8⟩
  · cases h2
  · injection e0 with e1 _ e3
    injection e1 with e1
    injection e1 with e1
    subst e1
    subst e3
    refine ⟨by have := h.1; simp at this ⊢; omega, Or.inr ⟨g, cap, cur, rfl, h3, h4, by omega, h6, h7, ?_⟩⟩
    rw [← h8, List.take_take]
    congr 1
    omega
theorem own_cap {w : World} {base : Nat} {e : TypeId} {g n cap : Nat} {xs : List Value} (h : w.ownsRow base e 1 (.slice (some ⟨g, 0, none⟩) n cap) n xs) : base ≤ g ∧ g < w.heap.size ∧ n ≤ cap ∧ cap ≤ maxLen ∧ (∀ i x, xs[i]? = some x → w.cell? ⟨g, i, none⟩ = some x) ∧ (∀ i, i < cap → (w.cell? ⟨g, i, none⟩).isSome = true) ∧ (∀ i, w.frozen? ⟨g, i, none⟩ = false) := by
  have hl := h.lt g rfl
  rcases h.2 with ⟨h2, _⟩ | ⟨g', cap', cur, e0, h3, h4, h5, h6, h7, h8⟩
  · cases h2
  · injection e0 with e1 _ e3
    injection e1 with e1
    injection e1 with e1
    subst e1
    subst e3
    refine ⟨hl.1, hl.2, h5, h6, fun i x hx => ?_, fun i hi => ?_, fun i => by simp [World.frozen?, h4]⟩
    · have := h.cells (g := g) rfl i x hx
      rwa [Addr.add_lit, Nat.zero_add] at this
    · have hi' : i < cur.size := by omega
      simp [World.cell?, h4, hi']
theorem row_form {w : World} {base : Nat} {e : TypeId} {v : Value} {n : Nat} {xs : List Value} (h : w.ownsRow base e 1 v n xs) : (v = .slice none 0 0 ∧ n = 0) ∨ ∃ g cap, v = .slice (some ⟨g, 0, none⟩) n cap := by
  rcases h.2 with h2 | ⟨g, cap, _, rfl, _⟩
  · exact Or.inl h2
  · exact Or.inr ⟨g, cap, rfl⟩
theorem infoInt : (Tryd.prog.info? 3).map (fun i => (i.zero, i.size, i.bytes)) = some (some (.int .i64 0), 1, 8) := by kernel_rfl

theorem one_new (w : World) (x : Value) (t : TypeId) : ∀ j u, [x][j]? = some u → (w.alloc (.cells #[x] t)).cell? ((⟨w.heap.size, 0, none⟩ : Addr).add j) = some u := by
  intro j u hj
  match j, hj with
  | 0, hj => simp at hj; subst hj; simp [Addr.add]
theorem one_new_at {w : World} {k : Nat} (hk : k = w.heap.size) (x : Value) (t : TypeId) : ∀ j u, [x][j]? = some u → (w.alloc (.cells #[x] t)).cell? ((⟨k, 0, none⟩ : Addr).add j) = some u := by
  subst hk
  exact one_new w x t
theorem one_one (n : Int) : ∀ u ∈ [Value.int .i64 n], u.oneCell' = true := by
  intro u hu
  simp at hu
  subst hu
  rfl
/-- append onto a row that the call owns: where the new row lies. -/
theorem wpList_append_at {P : Program} {ops : Array Oper} {rest : List Oper} {o : Oper} {a : Act} {Q : Exit → Act → World → Prop} (w : World) (hgd : o.guard = none) (s x : Operand) (t : TypeId)
    (ho : o.op = .call { callee := .builtin .append, args := #[s, x], argTypes := #[t, t] })
    (base : Nat) (e : TypeId) (i : TypeInfo) (z : Value) (size bytes : Nat) (ht : P.underlying t = some (.slice e)) (hi : P.info? e = some i) (hz : i.zero = some z)
    (hsize : i.size = size) (hby : i.bytes = bytes) (hzs : z.cells.size = size) (hsz : 0 < size)
    (v : Value) (n : Nat) (xs : List Value) (hs : a.eval s = v) (hown : w.ownsRow base e size v n xs)
    (ad : Addr) (m c : Nat) (news : List Value) (hx : a.eval x = .slice (some ad) m c) (hl : news.length = m * size) (hnews : ∀ j u, news[j]? = some u → w.cell? (ad.add j) = some u) (h1 : ∀ u ∈ news, u.oneCell' = true)
    (h63 : n + m ≤ maxLen) (hbytes : (n + m) * bytes ≤ 140737488355328) (hbase : base ≤ w.heap.size)
    (h : ∀ v' w', w'.ownsRow base e size v' (n + m) (xs ++ news) → w.grownBy w' v.ownBlock → (∀ k, v'.ownBlock = some k → v.ownBlock = some k ∨ w.heap.size ≤ k) → wpList P ops Q rest (a.put o.dst v') w') : wpList P ops Q (o :: rest) a w := by
  obtain ⟨v', w', hr, h2, h3, h4⟩ := run_append_own (P := P) w base t o.type e i z size bytes ht hi hz hsize hby hzs hsz v n xs hown ad m c news hl hnews h1 h63 hbytes hbase
  have hw : ∀ k, v'.ownBlock = some k → v.ownBlock = some k ∨ w.heap.size ≤ k := by
    have h63' : n + m ≤ 9223372036854775807 := by simpa [maxLen] using h63
    subst hsize
    subst hby
    intro k hk
    rcases hown.2 with ⟨rfl, rfl⟩ | ⟨g, cap, cur, rfl, hbg, hg, hnc, hcm, hcs, htake⟩
    · by_cases hm : m = 0
      · rw [h4.2 ⟨rfl, hm⟩] at hk
        cases hk
      · have hr2 := run_append_nil (P := P) w t o.type e i z ht hi hz ad m c news hl hnews (by omega) (by omega) (by have hb := hbytes; simp only [Nat.zero_add] at hb; omega)
        rw [hr] at hr2
        injection hr2 with e1 e2
        subst e1
        simp only [Value.ownBlock, Option.some.injEq] at hk
        right
        omega
    · by_cases hroom : n + m ≤ cap
      · have hfit : n * i.size + news.length ≤ cur.size := by rw [hl, hcs, ← Nat.add_mul]; exact Nat.mul_le_mul_right _ hroom
        have hr2 := run_append_room (P := P) w t o.type e i ht hi g n cap cur hg ad m c news hl hnews h1 hroom hfit
        rw [hr] at hr2
        injection hr2 with e1 e2
        subst e1
        left
        exact hk
      · have holds : ∀ j u, xs[j]? = some u → w.cell? ((⟨g, 0, none⟩ : Addr).add j) = some u := hown.cells (g := g) rfl
        have hr2 := run_append_grow (P := P) w t o.type e i z ht hi hz ⟨g, 0, none⟩ n cap xs hown.1 holds ad m c news hl hnews (by omega) (by omega) (growslice_fits (by omega) hbytes)
        rw [hr] at hr2
        injection hr2 with e1 e2
        subst e1
        simp only [Value.ownBlock, Option.some.injEq] at hk
        right
        omega
  refine wpList_plain hgd fun K hK => ?_
  unfold Oper.wp execOp
  simp only [ho, resolve, invoke, builtin, Sem.run_bind, Sem.run_pure, Result.andThen_ok, List.map_toArray, List.map_cons, List.map_nil, hs, hx, hr]
  exact hK _ _ (h v' w' h2 h3 hw)

theorem append_none (ao : Option Addr) (cap : Nat) (W : World) (ty : TypeId) : (Builtin.append_ #[24, 24] ty #[.slice none 0 0, .slice ao 0 cap]).run Tryd.prog W = .ok (.slice none 0 0) W := by
  obtain ⟨ii, hi, hz0, hz1, hz2⟩ := info_parts infoInt
  cases ao <;> simp [Builtin.append_, run_underlying Tryd.underlying24, sizeOf, typeInfo, hi, Builtin.lenOf, Builtin.firstCells, loadCells, loadCellsFrom]
theorem wpList_append_eq {P : Program} {ops : Array Oper} {rest : List Oper} {o : Oper} {a : Act} {w : World} {Q : Exit → Act → World → Prop} (hgd : o.guard = none) (s x : Operand) (t : TypeId)
    (ho : o.op = .call { callee := .builtin .append, args := #[s, x], argTypes := #[t, t] }) (v1 v2 : Value) (hs : a.eval s = v1) (hx : a.eval x = v2) (v' : Value) (w' : World)
    (hr : (Builtin.append_ #[t, t] o.type #[v1, v2]).run P w = .ok v' w') (h : wpList P ops Q rest (a.put o.dst v') w') : wpList P ops Q (o :: rest) a w := by
  refine wpList_plain hgd fun K hK => ?_
  unfold Oper.wp execOp
  simp only [ho, resolve, invoke, builtin, Sem.run_bind, Sem.run_pure, Result.andThen_ok, List.map_toArray, List.map_cons, List.map_nil, hs, hx, hr]
  exact hK _ _ h
end Go.Proofs.YtfconbblnmbnpacDoor
namespace Go.Proofs.YtfconbblnmbnpacDoor
open Go.RowKit
/-- Numbers that can be read. -/
def Rd (w : World) (v : Value) (xs : List Int) : Prop := (xs = [] ∧ ∃ ao cap, v = .slice ao 0 cap) ∨ ∃ g off cap, v = .slice (some ⟨g, off, none⟩) xs.length cap ∧ xs.length ≤ cap ∧ cap ≤ maxLen ∧ g < w.heap.size ∧ ∀ (i : Nat) x, xs[i]? = some x → w.cell? ⟨g, off + i, none⟩ = some (.int .i64 x)
theorem Rd.form {w : World} {v : Value} {xs : List Int} (h : Rd w v xs) : ∃ ao cap, v = .slice ao xs.length cap := by
  rcases h with ⟨rfl, ao, cap, rfl⟩ | ⟨g, off, cap, rfl, _⟩
  · exact ⟨_, _, rfl⟩
  · exact ⟨_, _, rfl⟩
theorem Rd.block {w w' : World} {v : Value} {xs : List Int} (h : Rd w v xs) (hb : ∀ k, k < w.heap.size → v.ownBlock = some k → w'.heap[k]? = w.heap[k]?) (hs : w.heap.size ≤ w'.heap.size) : Rd w' v xs := by
  rcases h with h | ⟨g, off, cap, rfl, h1, h1', h2, h3⟩
  · exact Or.inl h
  · exact Or.inr ⟨g, off, cap, rfl, h1, h1', by omega, fun i x hx => (World.cell?_of_block (w := w) (a := ⟨g, off + i, none⟩) (hb g h2 rfl)).trans (h3 i x hx)⟩
theorem Rd.own {w : World} {base : Nat} {v : Value} {xs : List Int} (h : w.ownsRow base 3 1 v xs.length (ints xs)) : Rd w v xs := by
  rcases row_form h with ⟨rfl, h0⟩ | ⟨g, cap, rfl⟩
  · exact Or.inl ⟨List.eq_nil_of_length_eq_zero h0, _, _, rfl⟩
  · obtain ⟨_, h2, h3, h4, h5, _, _⟩ := own_cap h
    exact Or.inr ⟨g, 0, cap, rfl, h3, h4, h2, fun i x hx => by rw [Nat.zero_add]; exact h5 i _ (ints_at hx)⟩
theorem Rd.all {w w' : World} {v : Value} {xs : List Int} (h : Rd w v xs) (hb : Below w.heap.size w w') : Rd w' v xs := by
  rcases h with h | ⟨g, off, cap, rfl, h1, h1', h2, h3⟩
  · exact Or.inl h
  · exact Or.inr ⟨g, off, cap, rfl, h1, h1', by have := hb.size; omega, fun i x hx => (hb.cell (p := ⟨g, off + i, none⟩) h2).trans (h3 i x hx)⟩
end Go.Proofs.YtfconbblnmbnpacDoor
namespace Go.Proofs.YtfconbblnmbnpacDoor
open Go.RowKit
set_option maxRecDepth 1000000 in
set_option maxHeartbeats 4000000 in
theorem wints_some (zs : List Int) (a ao b bo : Nat) (ac bc : Nat) (w : World) (ha : a < w.heap.size) (hb : b < w.heap.size) (hl : zs.length ≤ 1000000)
    (hca : ∀ (i : Nat) z, zs[i]? = some z → w.cell? ⟨a, ao + i, none⟩ = some (.int .i64 z)) (hcb : ∀ (i : Nat) z, zs[i]? = some z → w.cell? ⟨b, bo + i, none⟩ = some (.int .i64 z)) :
    Calls Tryd.prog 21 #[.slice (some ⟨a, ao, none⟩) zs.length ac, .slice (some ⟨b, bo, none⟩) zs.length bc] w fun e w' => e = .returned (.bool true) ∧ Below w.heap.size w w' := by
  go_enter Tryd.func21, Tryd.ntmps21
  go_wp2
  go_loopw [5] (fun i wr => ∃ k : Nat, k ≤ zs.length ∧ i = .int .i64 k ∧ Below w.heap.size w wr) (fun i _ => zs.length - (intOf i).toNat)
  case atStart => exact ⟨0, Nat.zero_le _, rfl, Below.refl _ _⟩
  case round =>
    obtain ⟨k, hk, rfl, hbw⟩ := hrel
    by_cases hkl : k < zs.length
    · obtain ⟨z, hz⟩ : ∃ z, zs[k]? = some z := ⟨zs[k], List.getElem?_eq_getElem hkl⟩
      have c0 := (hbw.cell (p := ⟨a, ao + k, none⟩) ha).trans (hca k z hz)
      have c1 := (hbw.cell (p := ⟨b, bo + k, none⟩) hb).trans (hcb k z hz)
      clear hz
      have hki : (k : Int) < (zs.length : Int) := by omega
      go_wp2
      go_quiet (fail)
      go_wp2
      go_roundw
      case rel => exact ⟨k + 1, by omega, by go_num, below_dN hbw _⟩
      case measure => simp [intOf]; omega
    · go_wp2
      go_ret
      exact ⟨rfl, hbw⟩
set_option maxRecDepth 1000000 in
set_option maxHeartbeats 4000000 in
theorem wints_nil (a b : Option Addr) (ac bc : Nat) (w : World) :
    Calls Tryd.prog 21 #[.slice a 0 ac, .slice b 0 bc] w fun e w' => e = .returned (.bool true) ∧ Below w.heap.size w w' := by
  go_enter Tryd.func21, Tryd.ntmps21
  go_wp2
  refine wp_loop_rounds 1 ?_
  rw [rounds_succ]
  go_wp2
  go_ret
  exact ⟨rfl, Below.refl _ _⟩
theorem wints_any (va vb : Value) (zs : List Int) (w : World) (ha : Rd w va zs) (hb : Rd w vb zs) (hl : zs.length ≤ 1000000) :
    Calls Tryd.prog 21 #[va, vb] w fun e w' => e = .returned (.bool true) ∧ Below w.heap.size w w' := by
  rcases ha with ⟨rfl, ao, ac, rfl⟩ | ⟨a, ao, ac, rfl, _, _, ha, hca⟩
  · rcases hb with ⟨_, bo, bc, rfl⟩ | ⟨b, bo, bc, rfl, _, _, hb, hcb⟩
    · exact wints_nil _ _ _ _ w
    · exact wints_nil _ _ _ _ w
  · rcases hb with ⟨rfl, bo, bc, rfl⟩ | ⟨b, bo, bc, rfl, _, _, hb, hcb⟩
    · exact wints_nil _ _ _ _ w
    · exact wints_some zs a ao b bo ac bc w ha hb hl hca hcb
end Go.Proofs.YtfconbblnmbnpacDoor
namespace Go.Proofs.YtfconbblnmbnpacDoor
open Go.RowKit

set_option maxRecDepth 1000000 in
set_option maxHeartbeats 4000000 in
theorem wheld_any (va vb : Value) (zs : List Int) (ls : Int) (w : World) (ha : Rd w va zs) (hb : Rd w vb zs) (hl : zs.length ≤ 1000000) :
    Calls Tryd.prog 14 #[.agg #[va, .int .i64 ls], .agg #[vb, .int .i64 ls]] w fun e w' => e = .returned (.bool true) ∧ Below w.heap.size w w' := by
  obtain ⟨aa, ac, rfl⟩ := ha.form
  obtain ⟨ba, bc, rfl⟩ := hb.form
  have hA : Below w.heap.size w ((w.alloc (.cells #[.slice aa zs.length ac, .int .i64 ls] 35)).alloc (.cells #[.slice ba zs.length bc, .int .i64 ls] 35)) := ((Below.refl _ _).alloc (Nat.le_refl _) _).alloc (by simp) _
  have h := wints_any _ _ zs _ (ha.all hA) (hb.all hA) hl
  clear ha hb
  go_enter Tryd.func14, Tryd.ntmps14
  go_wp2_with (go_at_call 21; refine h.mono ?_; rintro e w1 ⟨rfl, b1⟩; clear h)
  go_ret
  exact ⟨rfl, hA.trans (b1.mono hA.size)⟩
end Go.Proofs.YtfconbblnmbnpacDoor
namespace Go.Proofs.YtfconbblnmbnpacDoor
open Go.ChangeShapes Go.WideShapes Go.ChangeAt Go.WideElems Go.RowKit

theorem own : ownKnob Tryd.prog.godebug = none := by kernel_rfl
theorem laidOut : laidOutB Tryd.prog = true := by kernel_rfl
theorem trodAll_below {H : Type} {enc : TypeId × Value → H} {P : Program} (hlo : laidOutB P = true) {W W' : World} (hb : Below W.heap.size W W') (ts : List TypeId) : ∀ {vs : List Value} {ds : List (DataW H)} {ps : List MemPlace},
    (ts.all fun t => P.readableRec t && decide (t < P.types.size)) = true → DataW.TrodAll enc P W 0 (fun _ => true) true ts vs ds ps → (∀ x ∈ ps, x.block < W.heap.size) →
    DataW.TrodAll enc P W' 0 (fun b => decide (b < W.heap.size)) true ts vs ds ps := by
  induction ts with
  | nil =>
    intro vs ds ps _ h _
    cases vs <;> cases ds <;> exact h
  | cons t ts ih =>
    intro vs ds ps ht h hl
    cases vs with
    | nil => exact h.elim
    | cons v vs =>
      cases ds with
      | nil => exact h.elim
      | cons d ds =>
        obtain ⟨p, q, h1, h2, rfl⟩ := h
        simp only [List.all_cons, Bool.and_eq_true, decide_eq_true_eq] at ht
        exact ⟨p, q, Below.trod hlo ht.1.1 ht.1.2 h1 hb (fun x hx => hl x (by simp [hx])), ih (by simpa using ht.2) h2 (fun x hx => hl x (by simp [hx])), rfl⟩

theorem law_post {H : Type} {enc : TypeId × Value → H} {f : Func} {s : ChangeSpec} {W W' : World} {args : Array Value} {ds gs : List (DataW H)} {before : List MemPlace}
    (hf : f.resultTypes = #[4]) (hts : (f.params.toList.all fun t => Tryd.prog.readableRec t && decide (t < Tryd.prog.types.size)) = true) (hsv : s.vars = [])
    (hW : DataW.Whole enc Tryd.prog f.params.toList s.vars false W args.toList ds gs before) (hs : s.fn H (ds ++ gs) = { results := [.lit (.bool true)], args := ds }) (hb : Below W.heap.size W W') :
    s.post enc Tryd.prog f false true false false W args (.bool true) W' := by
  have hW' := hW
  obtain ⟨p, q, hA, hV, rfl, hfz, hnd⟩ := hW
  have hlt : ∀ x ∈ p, x.block < W.heap.size := fun x hx => by simpa using hW'.lt x (by simp [hx])
  refine ⟨ds, gs, p ++ q, [], p, [], hW', ?_, ?_, ?_, hb.frame _, fun h => by cases h⟩
  · rw [hs, hf]
    exact trodAll_cons_mk (shut_bool Tryd.underlying4 _) trodAll_mk0
  · rw [hs]
    exact trodAll_below laidOut hb _ hts hA hlt
  · rw [hs, hsv]
    rfl
end Go.Proofs.YtfconbblnmbnpacDoor
namespace Go.Proofs.YtfconbblnmbnpacDoor
open Go.ChangeShapes Go.WideShapes Go.ChangeAt Go.WideElems Go.RowKit Go.Deep

set_option maxRecDepth 100000 in
theorem open_wire {H : Type} {enc : TypeId × Value → H} {W : World} {base b0 : Nat} {sp : Nat → Bool} {held : Bool} {r : Reach} {v : Value} {d : DataW H} {p : List MemPlace} (hv : Value.okWide Tryd.prog W r b0 23 v)
    (h : DataW.Trod enc Tryd.prog W base sp held 23 v d p) : ∃ f t k q : Int, v = wV f t k q := by
  obtain ⟨v0, v1, v2, v3, y0, y1, y2, y3, m, rfl, _, _, h0, h1, h2, h3⟩ := Joins.open_agg4 Tryd.underlying23 (by kernel_rfl) (by kernel_rfl) hv h
  obtain ⟨n, e0, _, _⟩ := DataW.trod_int Tryd.underlying3 h0
  obtain ⟨a, e1, _, _⟩ := DataW.trod_int Tryd.underlying3 h1
  obtain ⟨b, e2, _, _⟩ := DataW.trod_int Tryd.underlying3 h2
  obtain ⟨c, e3, _, _⟩ := DataW.trod_int Tryd.underlying3 h3
  simp only [List.cons.injEq, and_true] at e0 e1 e2 e3
  subst e0; subst e1; subst e2; subst e3
  exact ⟨n, a, b, c, rfl⟩
theorem spot_none {W : World} {a : Addr} {v : Value} (h : W.cell? a = some v) : a = ⟨a.block, a.off, none⟩ ∧ a.block < W.heap.size := by
  obtain ⟨b, o, s⟩ := a
  unfold World.cell? at h
  simp only at h
  cases hb : W.heap[b]? with
  | none => rw [hb] at h; cases h
  | some x =>
    rw [hb] at h
    refine ⟨?_, (Array.getElem?_eq_some_iff.1 hb).1⟩
    cases x <;> simp at h
    cases s with
    | none => rfl
    | some s => simp at h
set_option maxRecDepth 100000 in
theorem open_stp {H : Type} {enc : TypeId × Value → H} {W : World} {b0 : Nat} {r : Reach} {v : Value} {d : DataW H} {p : List MemPlace} (hv : Value.okWide Tryd.prog W r b0 24 v)
    (h : DataW.Trod enc Tryd.prog W 0 (fun _ => true) true 24 v d p) : ∃ l : List Int, Stp W v l := by
  obtain ⟨a0, len0, cap0, rfl⟩ := okWide_slice Tryd.underlying24 hv
  obtain ⟨fuel, hf⟩ := h
  rcases open_ints Tryd.underlying24 Tryd.underlying3 (by kernel_rfl) hf with ⟨hcs, _⟩ | ⟨a, len, cap, zs, hcs, _, hl, _, hz, _, hc, _⟩
  · simp [Value.cells] at hcs
    obtain ⟨rfl, rfl, rfl⟩ := hcs
    exact ⟨[], Or.inl ⟨rfl, _, _, rfl⟩⟩
  · simp [Value.cells] at hcs
    obtain ⟨rfl, rfl, rfl⟩ := hcs
    have hlz : len0 ≤ zs.length := by rw [hz]; simpa using hl
    by_cases h0 : len0 = 0
    · subst h0
      exact ⟨[], Or.inl ⟨rfl, _, _, rfl⟩⟩
    · have hz0 := hc 0 (by omega)
      rw [show a.add 0 = a from by simp [Addr.add]] at hz0
      obtain ⟨ha, hlt⟩ := spot_none hz0
      have hlen : (zs.take len0).length = len0 := by rw [List.length_take]; omega
      refine ⟨zs.take len0, Or.inr ⟨a.block, a.off, cap0, by rw [hlen, ← ha], hlt, fun i x hx => ?_⟩⟩
      have hi : i < len0 := by
        have := (List.getElem?_eq_some_iff.1 hx).1
        omega
      have h1 := hc i (by omega)
      rw [ha, Addr.add_lit] at h1
      rw [List.getElem?_take, if_pos hi] at hx
      rw [List.getD_eq_getElem?_getD, hx] at h1
      exact h1
end Go.Proofs.YtfconbblnmbnpacDoor
namespace Go.Proofs.YtfconbblnmbnpacDoor
open Go.RowKit

/-- The cells of the document's line. -/
def RlC (w : World) (b : Nat) (kd dp ls : Int) (u : Value) : Prop := w.cell? ⟨b, 2, none⟩ = some (.int .i64 kd) ∧ w.cell? ⟨b, 3, none⟩ = some (.int .i64 dp) ∧ w.cell? ⟨b, 4, none⟩ = some u ∧ w.cell? ⟨b, 5, none⟩ = some (.int .i64 ls) ∧ w.frozen? ⟨b, 4, none⟩ = false ∧ w.frozen? ⟨b, 5, none⟩ = false
theorem RlC.block {w w' : World} {b : Nat} {kd dp ls : Int} {v : Value} (h : RlC w b kd dp ls v) (hb : w'.heap[b]? = w.heap[b]?) : RlC w' b kd dp ls v := by
  have hc := fun o => World.cell?_of_block (w := w) (w' := w') (a := ⟨b, o, none⟩) hb
  have hf := fun o => World.frozen?_of_block (w := w) (w' := w') (a := ⟨b, o, none⟩) hb
  unfold RlC
  simp only [hc, hf]
  exact h
theorem RlC.items {w : World} {b : Nat} {kd dp ls : Int} {v : Value} (h : RlC w b kd dp ls v) (u : Value) : RlC (w.setCell ⟨b, 4, none⟩ u) b kd dp ls u := by
  obtain ⟨c0, c1, c2, c3, f2, f3⟩ := h
  refine ⟨?_, ?_, ?_, ?_, ?_, ?_⟩ <;> simp [go_sem, c0, c1, c2, c3, f2, f3]
theorem RlC.lost {w : World} {b : Nat} {kd dp ls : Int} {v : Value} (h : RlC w b kd dp ls v) (n : Int) : RlC (w.setCell ⟨b, 5, none⟩ (.int .i64 n)) b kd dp n v := by
  obtain ⟨c0, c1, c2, c3, f2, f3⟩ := h
  refine ⟨?_, ?_, ?_, ?_, ?_, ?_⟩ <;> simp [go_sem, c0, c1, c2, c3, f2, f3]
theorem RlC.lt {w : World} {b : Nat} {kd dp ls : Int} {v : Value} (h : RlC w b kd dp ls v) : b < w.heap.size := wlt h.1
/-- The document's line: its block lies ahead of 'base', its numbers from 'base' on. -/
structure Rl (w : World) (base b : Nat) (kd dp : Int) (xs : List Int) (ls : Int) (u : Value) : Prop where
  c : RlC w b kd dp ls u
  rd : Rd w u xs
  own : ∀ k, u.ownBlock = some k → base ≤ k ∧ k < w.heap.size
  lt : b < base
  le : base ≤ w.heap.size
/-- What a call on it changes: its block alone; and it makes memory. -/
structure RTouch (w w' : World) (b : Nat) (u u' : Value) : Prop where
  os : w'.os = w.os
  tape : w'.tape = w.tape
  output : w'.output = w.output
  size : w.heap.size ≤ w'.heap.size
  block : ∀ k, k < w.heap.size → k ≠ b → w'.heap[k]? = w.heap[k]?
  new : ∀ k, u'.ownBlock = some k → u.ownBlock = some k ∨ w.heap.size ≤ k
  head : b < w.heap.size → ∀ o, o < 4 → w'.cell? ⟨b, o, none⟩ = w.cell? ⟨b, o, none⟩
theorem RTouch.refl (w : World) (b : Nat) (u : Value) : RTouch w w b u u := ⟨rfl, rfl, rfl, Nat.le_refl _, fun _ _ _ => rfl, fun _ h => Or.inl h, fun _ _ _ => rfl⟩
theorem RTouch.below {w w' : World} {b B : Nat} {u u' : Value} (h : RTouch w w' b u u') (hb : B ≤ b) (hB : B ≤ w.heap.size) : Below B w w' :=
  ⟨h.os, h.tape, h.output, h.size, fun k hk => h.block k (by omega) (by omega)⟩
theorem RTouch.set {w w' : World} {b : Nat} {u u' : Value} (h : RTouch w w' b u u') (i : Nat) (x : Value) (hi : 4 ≤ i := by decide) : RTouch w (w'.setCell ⟨b, i, none⟩ x) b u u' :=
  ⟨h.os, h.tape, h.output, by have := h.size; simpa using this, fun k hk hb => by rw [Below.heap_setCell _ _ _ _ hb]; exact h.block k hk hb, h.new, fun hb o ho => (World.cell?_setCell_other _ _ _ _ (fun e => by injection e with e1 e2; omega)).trans (h.head hb o ho)⟩
theorem RTouch.of {w w' : World} {b : Nat} {u u' : Value} (h : Below w.heap.size w w') (hn : ∀ k, u'.ownBlock = some k → u.ownBlock = some k ∨ w.heap.size ≤ k) : RTouch w w' b u u' :=
  ⟨h.os, h.tape, h.output, h.size, fun k hk _ => h.block k hk, hn, fun hb o _ => h.cell (p := ⟨b, o, none⟩) hb⟩

theorem RTouch.alloc {w w' : World} {b : Nat} {u u' : Value} (h : RTouch w w' b u u') (o : Obj) : RTouch w (w'.alloc o) b u u' :=
  ⟨h.os, h.tape, h.output, by have := h.size; simp; omega, fun k hk hb => by rw [Below.heap_alloc _ _ _ (Nat.lt_of_lt_of_le hk h.size)]; exact h.block k hk hb, h.new, fun hb p hp => (World.cell?_of_block (w := w') (a := ⟨b, p, none⟩) (Below.heap_alloc _ _ _ (Nat.lt_of_lt_of_le hb h.size))).trans (h.head hb p hp)⟩
theorem RTouch.as {w w' : World} {b : Nat} {u u' u2 : Value} (h : RTouch w w' b u u') (hn : ∀ k, u2.ownBlock = some k → u.ownBlock = some k ∨ w.heap.size ≤ k) : RTouch w w' b u u2 := ⟨h.os, h.tape, h.output, h.size, h.block, hn, h.head⟩

set_option maxRecDepth 100000 in
set_option maxHeartbeats 4000000 in
theorem rsend_sample (base b : Nat) (dp : Int) (xs : List Int) (ls : Int) (u : Value) (n : Int) (w : World) (hR : Rl w base b 1 dp xs ls u) :
    Calls Tryd.prog 11 #[.pointer (some ⟨b, 0, none⟩), .int .i64 n] w fun e w' => ∃ u', e = .returned (.bool true) ∧ Rl w' base b 1 dp [n] ls u' ∧ RTouch w w' b u u' := by
  have hlt := hR.c.lt
  have HR : Hid (Rl w base b 1 dp xs ls u) := hR
  obtain ⟨ao, cap, rfl⟩ := hR.rd.form
  obtain ⟨c0, c1, c2, c3, f2, f3⟩ := hR.c
  clear c1 c3 f3 hR
  have hne : b ≠ w.heap.size := by omega
  go_enter Tryd.func11, Tryd.ntmps11
  go_wp2
  go_ret
  refine ⟨.slice (some ⟨w.heap.size, 0, none⟩) 1 1, rfl, ⟨(HR.out.c.items _).block (Below.heap_alloc _ _ _ (by simpa using hlt)), Or.inr ⟨w.heap.size, 0, 1, rfl, Nat.le_refl _, by unfold maxLen; decide, by simp, fun i x hx => ?_⟩, fun k hk => ?_, HR.out.lt, by have := HR.out.le; simp; omega⟩, ?_⟩
  · match i, hx with
    | 0, hx => simp at hx; subst hx; simp [go_sem]
  · simp only [Value.ownBlock, Option.some.injEq] at hk
    have := HR.out.le
    simp
    omega
  · exact (((RTouch.refl w b _).set 4 _).alloc _).as (fun k hk => by simp only [Value.ownBlock, Option.some.injEq] at hk; right; omega)

set_option maxRecDepth 100000 in
set_option maxHeartbeats 4000000 in
theorem rsend_full (base b : Nat) (dp : Int) (xs : List Int) (ls : Int) (u : Value) (n : Int) (w : World) (hls : 0 ≤ ls ∧ ls < 1000000000) (hR : Rl w base b 2 dp xs ls u) (hdp : dp ≤ (xs.length : Int)) :
    Calls Tryd.prog 11 #[.pointer (some ⟨b, 0, none⟩), .int .i64 n] w fun e w' => e = .returned (.bool false) ∧ Rl w' base b 2 dp xs (ls + 1) u ∧ RTouch w w' b u u := by
  have hlt := hR.c.lt
  have HR : Hid (Rl w base b 2 dp xs ls u) := hR
  obtain ⟨ao, cap, rfl⟩ := hR.rd.form
  obtain ⟨c0, c1, c2, c3, f2, f3⟩ := hR.c
  obtain ⟨hls0, hls1⟩ := hls
  have hd : decide ((xs.length : Int) < dp) = false := by simp; omega
  clear hR
  go_enter Tryd.func11, Tryd.ntmps11
  go_wp2
  go_quiet (fail)
  go_wp2
  go_ret
  have hB := below_dN (Below.refl w.heap.size w) nq
  exact ⟨rfl, ⟨(HR.out.c.block (hB.block b hlt)).lost _, HR.out.rd.block (fun k _ hk => by rw [Below.heap_setCell _ _ _ _ (by have := HR.out.own k hk; have := HR.out.lt; show k ≠ b; omega)]; rfl) (by simp), fun k hk => by have := HR.out.own k hk; simp; omega, HR.out.lt, by have := HR.out.le; simpa using this⟩, (RTouch.of hB (fun k hk => Or.inl hk)).set 5 _⟩

/-- Behind both appends, and the store. -/
theorem room_end {w w2 : World} {base b : Nat} {dp ls n : Int} {xs : List Int} {u v1 : Value} (hR : Rl w base b 2 dp xs ls u) (hB : Below w.heap.size w w2) (own1 : w2.ownsRow w.heap.size 3 1 v1 (xs.length + 1) (ints xs ++ [.int .i64 n])) :
    Rl (w2.setCell ⟨b, 4, none⟩ v1) base b 2 dp (xs ++ [n]) ls v1 ∧ RTouch w (w2.setCell ⟨b, 4, none⟩ v1) b u v1 := by
  have hlt := hR.c.lt
  have own2 := ownsRow_setCell_below own1 (a := ⟨b, 4, none⟩) hlt v1
  refine ⟨⟨(hR.c.block (hB.block b hlt)).items _, Rd.own (base := w.heap.size) (by rw [ints_snoc, List.length_append]; exact own2), fun k hk => ?_, hR.lt, by have := hR.le; have := hB.size; simp; omega⟩, ?_⟩
  · have := own1.lt k hk
    have := hR.le
    simp
    omega
  · exact (RTouch.of hB (fun k hk => Or.inr (own1.lt k hk).1)).set 4 _

set_option maxRecDepth 100000 in
set_option maxHeartbeats 4000000 in
theorem rsend_first (base b : Nat) (dp : Int) (ls : Int) (ao : Option Addr) (cap : Nat) (n : Int) (w : World) (hR : Rl w base b 2 dp [] ls (.slice ao 0 cap)) (hdp : 0 < dp) :
    Calls Tryd.prog 11 #[.pointer (some ⟨b, 0, none⟩), .int .i64 n] w fun e w' => ∃ u', e = .returned (.bool true) ∧ Rl w' base b 2 dp [n] ls u' ∧ RTouch w w' b (.slice ao 0 cap) u' := by
  obtain ⟨ii, hi, hz0, hz1, hz2⟩ := info_parts infoInt
  have hlt := hR.c.lt
  have HR : Hid (Rl w base b 2 dp [] ls (.slice ao 0 cap)) := hR
  obtain ⟨c0, c1, c2, c3, f2, f3⟩ := hR.c
  clear hR
  go_enter Tryd.func11, Tryd.ntmps11
  go_wp2
  go_quiet (fail)
  have hB := below_dN (Below.refl w.heap.size w) nq
  go_wp2_with (first | (at_builtin; refine wpList_append_eq rfl _ _ 24 rfl (.slice none 0 0) (.slice ao 0 cap) rfl rfl (.slice none 0 0) _ (append_none ao cap _ _) ?_) | (at_builtin; refine wpList_append_at _ rfl _ _ 24 rfl w.heap.size 3 ii (.int .i64 0) 1 8 Tryd.underlying24 hi hz0 hz1 hz2 rfl (by decide) _ _ _ rfl (World.ownsRow_nil _ _ _ _) ⟨w.heap.size, 0, none⟩ 1 1 [.int .i64 n] rfl rfl ?c1A ?c2A ?c3A ?c4A ?c5A ?_))
  case c1A => exact one_new_at (by simp) _ _
  case c2A => exact one_one n
  case c3A => unfold maxLen; simp
  case c4A => simp
  case c5A => simp
  intro v1 w2 own1 hg1 hat1
  have hB2 : Below w.heap.size w w2 := (hB.alloc (by simp) _).grown hg1 (by simp) (by intro k hk; cases hk)
  have HE : Hid (Rl (w2.setCell ⟨b, 4, none⟩ v1) base b 2 dp ([] ++ [n]) ls v1 ∧ RTouch w (w2.setCell ⟨b, 4, none⟩ v1) b (.slice ao 0 cap) v1) := room_end HR.out hB2 own1
  have hc2 := HR.out.c.block (hB2.block b hlt)
  obtain ⟨k0, k1, k2, k3, k4, k5⟩ := hc2
  have hlt2 : b < w2.heap.size := Nat.lt_of_lt_of_le hlt hB2.size
  obtain ⟨g1, cap1, rfl⟩ : ∃ g cap, v1 = .slice (some ⟨g, 0, none⟩) 1 cap := by
    rcases row_form own1 with ⟨_, h⟩ | h
    · simp at h
    · simpa using h
  clear own1 hg1 hat1 c0 c1 c2 c3 f2 f3 k0 k1 k3 k5
  go_wp2
  go_ret
  exact ⟨_, rfl, HE.out⟩

set_option maxRecDepth 100000 in
set_option maxHeartbeats 4000000 in
theorem rsend_more (base b : Nat) (dp : Int) (xs : List Int) (ls : Int) (g off cap : Nat) (n : Int) (w : World) (hR : Rl w base b 2 dp xs ls (.slice (some ⟨g, off, none⟩) xs.length cap)) (hdp : (xs.length : Int) < dp) (hx : xs.length ≤ 1000000) (hc : ∀ (i : Nat) x, xs[i]? = some x → w.cell? ⟨g, off + i, none⟩ = some (.int .i64 x)) :
    Calls Tryd.prog 11 #[.pointer (some ⟨b, 0, none⟩), .int .i64 n] w fun e w' => ∃ u', e = .returned (.bool true) ∧ Rl w' base b 2 dp (xs ++ [n]) ls u' ∧ RTouch w w' b (.slice (some ⟨g, off, none⟩) xs.length cap) u' := by
  obtain ⟨ii, hi, hz0, hz1, hz2⟩ := info_parts infoInt
  have hlt := hR.c.lt
  have HR : Hid (Rl w base b 2 dp xs ls (.slice (some ⟨g, off, none⟩) xs.length cap)) := hR
  have HC : Hid (∀ (i : Nat) x, xs[i]? = some x → w.cell? ⟨g, off + i, none⟩ = some (.int .i64 x)) := hc
  obtain ⟨c0, c1, c2, c3, f2, f3⟩ := hR.c
  clear hR hc
  go_enter Tryd.func11, Tryd.ntmps11
  go_wp2
  go_quiet (fail)
  have hB := below_dN (Below.refl w.heap.size w) nq
  go_wp2_with (at_builtin; refine wpList_append_at _ rfl _ _ 24 rfl w.heap.size 3 ii (.int .i64 0) 1 8 Tryd.underlying24 hi hz0 hz1 hz2 rfl (by decide) _ _ _ rfl (World.ownsRow_nil _ _ _ _) ⟨g, off, none⟩ xs.length cap (ints xs) rfl ?c0A ?c1A ?c2A ?c3A ?c4A ?c5A ?_)
  case c0A => rw [ints_len, Nat.mul_one]
  case c1A =>
    intro j x hj
    rw [Addr.add_lit]
    have hjl : j < xs.length := by have := (List.getElem?_eq_some_iff.1 hj).1; rwa [ints_len] at this
    have h1 := HC.out j xs[j] (List.getElem?_eq_getElem hjl)
    rw [ints_at (List.getElem?_eq_getElem hjl)] at hj
    have h2 := (hB.cell (p := ⟨g, off + j, none⟩) (wlt h1)).trans h1
    rw [h2]
    exact hj
  case c2A => intro x hx; obtain ⟨y, _, rfl⟩ := List.mem_map.1 hx; rfl
  case c3A => unfold maxLen; omega
  case c4A => omega
  case c5A => simp
  intro v1 w2 own1 hg1 hat1
  have hB2 : Below w.heap.size w w2 := hB.grown hg1 (by simp) (by intro k hk; cases hk)
  obtain ⟨k0, k1, k2, k3, k4, k5⟩ := HR.out.c.block (hB2.block b hlt)
  have hs2 : w.heap.size ≤ w2.heap.size := hB2.size
  have hlt2 : b < w2.heap.size := Nat.lt_of_lt_of_le hlt hB2.size
  obtain ⟨a1, cap1, rfl⟩ : ∃ ao cap, v1 = .slice ao xs.length cap := by
    rcases row_form own1 with ⟨rfl, h⟩ | ⟨g', cap', rfl⟩
    · exact ⟨_, _, by rw [h]⟩
    · exact ⟨_, _, rfl⟩
  clear hg1 hat1 c0 c1 c2 c3 f2 f3 k0 k1 k3 k5
  go_wp2_with (at_builtin; refine wpList_append_at _ rfl _ _ 24 rfl w.heap.size 3 ii (.int .i64 0) 1 8 Tryd.underlying24 hi hz0 hz1 hz2 rfl (by decide) _ _ _ rfl (own1.alloc _) ⟨w2.heap.size, 0, none⟩ 1 1 [.int .i64 n] rfl rfl ?d1A ?d2A ?d3A ?d4A ?d5A ?_)
  case d1A => exact one_new_at rfl _ _
  case d2A => exact one_one n
  case d3A => unfold maxLen; omega
  case d4A => omega
  case d5A => simp; omega
  intro v3 w3 own3 hg3 hat3
  have hB3 : Below w.heap.size w w3 := (hB2.alloc hs2 _).grown hg3 (by simp; omega) (by intro k hk; exact (own1.lt k hk).1)
  have HE : Hid (Rl (w3.setCell ⟨b, 4, none⟩ v3) base b 2 dp (xs ++ [n]) ls v3 ∧ RTouch w (w3.setCell ⟨b, 4, none⟩ v3) b (.slice (some ⟨g, off, none⟩) xs.length cap) v3) := room_end HR.out hB3 own3
  obtain ⟨j0, j1, j2, j3, j4, j5⟩ := HR.out.c.block (hB3.block b hlt)
  have hlt3 : b < w3.heap.size := Nat.lt_of_lt_of_le hlt hB3.size
  obtain ⟨g3, cap3, rfl⟩ : ∃ g cap, v3 = .slice (some ⟨g, 0, none⟩) (xs.length + 1) cap := by
    rcases row_form own3 with ⟨_, h⟩ | h
    · omega
    · exact h
  clear own3 own1 hg3 hat3 k2 k4 j0 j1 j3 j5
  go_wp2
  go_ret
  exact ⟨_, rfl, HE.out⟩
theorem rsend_room (base b : Nat) (dp : Int) (xs : List Int) (ls : Int) (u : Value) (n : Int) (w : World) (hR : Rl w base b 2 dp xs ls u) (hdp : (xs.length : Int) < dp) (hx : xs.length ≤ 1000000) :
    Calls Tryd.prog 11 #[.pointer (some ⟨b, 0, none⟩), .int .i64 n] w fun e w' => ∃ u', e = .returned (.bool true) ∧ Rl w' base b 2 dp (xs ++ [n]) ls u' ∧ RTouch w w' b u u' := by
  rcases hR.rd with ⟨rfl, ao, cap, rfl⟩ | ⟨g, off, cap, rfl, _, _, _, hc⟩
  · exact rsend_first base b dp ls ao cap n w hR (by simpa using hdp)
  · exact rsend_more base b dp xs ls g off cap n w hR hdp hx hc

set_option maxRecDepth 100000 in
set_option maxHeartbeats 4000000 in
theorem rtake_none (base b : Nat) (kd dp : Int) (ls : Int) (u : Value) (w : World) (hR : Rl w base b kd dp [] ls u) :
    Calls Tryd.prog 9 #[.pointer (some ⟨b, 0, none⟩)] w fun e w' => e = .returned (.tuple #[.int .i64 0, .bool false]) ∧ w' = w := by
  have hlt := hR.c.lt
  obtain ⟨ao, cap, rfl⟩ := hR.rd.form
  obtain ⟨c0, c1, c2, c3, f2, f3⟩ := hR.c
  clear hR
  go_enter Tryd.func9, Tryd.ntmps9
  go_wp2
  go_ret2
  exact ⟨rfl, rfl⟩
theorem Rd.cons {w : World} {v : Value} {x : Int} {ys : List Int} (h : Rd w v (x :: ys)) : ∃ g off cap, v = .slice (some ⟨g, off, none⟩) (ys.length + 1) cap ∧ ys.length + 1 ≤ cap ∧ cap ≤ maxLen ∧ g < w.heap.size ∧ w.cell? ⟨g, off, none⟩ = some (.int .i64 x) ∧ ∀ (i : Nat) y, ys[i]? = some y → w.cell? ⟨g, off + 1 + i, none⟩ = some (.int .i64 y) := by
  rcases h with ⟨h, _⟩ | ⟨g, off, cap, rfl, h1, h2, h3, h4⟩
  · cases h
  · exact ⟨g, off, cap, rfl, h1, h2, h3, h4 0 x rfl, fun i y hy => by rw [show off + 1 + i = off + (i + 1) by omega]; exact h4 (i + 1) y (by simpa using hy)⟩
set_option maxRecDepth 100000 in
set_option maxHeartbeats 4000000 in
theorem rtake_sample (base b : Nat) (dp : Int) (x : Int) (ys : List Int) (ls : Int) (u : Value) (w : World) (hR : Rl w base b 1 dp (x :: ys) ls u) :
    Calls Tryd.prog 9 #[.pointer (some ⟨b, 0, none⟩)] w fun e w' => e = .returned (.tuple #[.int .i64 x, .bool true]) ∧ w' = w := by
  have hlt := hR.c.lt
  obtain ⟨g, off, cap, rfl, h1, h2, h3, h4, _⟩ := hR.rd.cons
  obtain ⟨c0, c1, c2, c3, f2, f3⟩ := hR.c
  have hz : ¬ ((ys.length : Int) + 1 = 0) := by omega
  clear hR
  go_enter Tryd.func9, Tryd.ntmps9
  go_wp2
  go_ret2
  exact ⟨rfl, rfl⟩
set_option maxRecDepth 100000 in
set_option maxHeartbeats 4000000 in
theorem rtake_queue (base b : Nat) (dp : Int) (x : Int) (ys : List Int) (ls : Int) (u : Value) (w : World) (hR : Rl w base b 2 dp (x :: ys) ls u) :
    Calls Tryd.prog 9 #[.pointer (some ⟨b, 0, none⟩)] w fun e w' => ∃ u', e = .returned (.tuple #[.int .i64 x, .bool true]) ∧ Rl w' base b 2 dp ys ls u' ∧ RTouch w w' b u u' := by
  have hlt := hR.c.lt
  have HR : Hid (Rl w base b 2 dp (x :: ys) ls u) := hR
  obtain ⟨g, off, cap, rfl, h1, h2, h3, h4, h5⟩ := hR.rd.cons
  obtain ⟨c0, c1, c2, c3, f2, f3⟩ := hR.c
  have hz : ¬ ((ys.length : Int) + 1 = 0) := by omega
  have h1i : (1 : Int) ≤ (ys.length : Int) + 1 := by omega
  have h1c : 1 ≤ cap := by omega
  have H5 : Hid (∀ (i : Nat) y, ys[i]? = some y → w.cell? ⟨g, off + 1 + i, none⟩ = some (.int .i64 y)) := h5
  clear hR h5
  unfold maxLen at h2
  have hown := HR.out.own g rfl
  by_cases hc1 : cap = 1
  · subst hc1
    obtain rfl : ys = [] := List.eq_nil_of_length_eq_zero (by omega)
    go_enter Tryd.func9, Tryd.ntmps9
    go_wp2
    go_ret2
    exact ⟨_, rfl, ⟨HR.out.c.items _, Or.inl ⟨rfl, _, _, rfl⟩, fun k hk => by obtain rfl := Option.some.inj hk; simpa using hown, HR.out.lt, by have := HR.out.le; simpa using this⟩, ((RTouch.refl w b _).set 4 _).as (fun k hk => Or.inl hk)⟩
  · go_enter Tryd.func9, Tryd.ntmps9
    go_wp2
    go_ret2
    refine ⟨_, rfl, ⟨HR.out.c.items _, Or.inr ⟨g, off + 1, cap - 1, rfl, by omega, by unfold maxLen; omega, by simpa using h3, fun i y hy => ?_⟩, fun k hk => by obtain rfl := Option.some.inj hk; simpa using hown, HR.out.lt, by have := HR.out.le; simpa using this⟩, ((RTouch.refl w b _).set 4 _).as (fun k hk => Or.inl hk)⟩
    have hgb : g ≠ b := by have := HR.out.lt; omega
    exact (World.cell?_of_block (w := w) (a := ⟨g, off + 1 + i, none⟩) (Below.heap_setCell _ _ _ _ hgb)).trans (H5.out i y hy)
end Go.Proofs.YtfconbblnmbnpacDoor
