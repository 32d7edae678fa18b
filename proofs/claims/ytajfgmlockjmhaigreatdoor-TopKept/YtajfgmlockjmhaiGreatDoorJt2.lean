/-
  RdV, StEq, Math, RoomMath, WireMath, StaysMath, TextMath, CodeL, Base, OpsL, ReadMath, ParseMath, RopMath: joined into one text.
-/
import Derived.Test.YtajfgmlockjmhaiGreatDoorJt1
import Derived.Laws.OwnMore
import Derived.Laws.StructEq
import Derived.Lib.ItoaLen
import Derived.Lib.AtoiTie
import Derived.Test.YtajfgmlockjmhaiGreatDoorRows
import Derived.WalkKit
namespace Go.Proofs.YtajfgmlockjmhaiGreatDoor
open Go.RowKit

theorem sl_form {w : World} {base : Nat} {e : TypeId} {size : Nat} {v : Value} {n : Nat} {xs : List Value} (h : w.ownsRow base e size v n xs) : ∃ ao cap, v = .slice ao n cap := by
  rcases h.2 with ⟨h1, h2⟩ | ⟨g, cap, cur, h1, _⟩
  · exact ⟨_, _, by rw [h1, h2]⟩
  · exact ⟨_, _, h1⟩
def RdV (w : World) (v : Value) (vs : List Value) : Prop := (vs = [] ∧ ∃ ao cap, v = .slice ao 0 cap) ∨ ∃ g off cap, v = .slice (some ⟨g, off, none⟩) vs.length cap ∧ g < w.heap.size ∧ ∀ (i : Nat) x, vs[i]? = some x → w.cell? ⟨g, off + i, none⟩ = some x
theorem RdV.form {w : World} {v : Value} {vs : List Value} (h : RdV w v vs) : ∃ ao cap, v = .slice ao vs.length cap := by
  rcases h with ⟨rfl, ao, cap, rfl⟩ | ⟨g, off, cap, rfl, _⟩
  · exact ⟨_, _, rfl⟩
  · exact ⟨_, _, rfl⟩
theorem RdV.all {w w' : World} {v : Value} {vs : List Value} (h : RdV w v vs) (hb : Below w.heap.size w w') : RdV w' v vs := by
  rcases h with h | ⟨g, off, cap, rfl, h2, h3⟩
  · exact Or.inl h
  · exact Or.inr ⟨g, off, cap, rfl, by have := hb.size; omega, fun i x hx => (hb.cell (p := ⟨g, off + i, none⟩) h2).trans (h3 i x hx)⟩
theorem append_rdv {t e : TypeId} {z : Value} {bytes : Nat} (ht : Tryz.prog.underlying t = some (.slice e)) (hI : (Tryz.prog.info? e).map (fun i => (i.zero, i.size, i.bytes)) = some (some z, 1, bytes)) (hzc : z.cells.size = 1) (hby : bytes ≤ 16) {w : World} {base : Nat} {v u : Value} {n : Nat} {xs ys : List Value} (hown : w.ownsRow base e 1 v n xs) (hu : RdV w u ys) (h1 : ∀ y ∈ ys, y.oneCell' = true) (hn : n + ys.length ≤ 1000000) (hb : base ≤ w.heap.size) (ty : TypeId) :
    ∃ v' w', (Builtin.append_ #[t, t] ty #[v, u]).run Tryz.prog w = .ok v' w' ∧ w'.ownsRow base e 1 v' (n + ys.length) (xs ++ ys) ∧ w.grownBy w' v.ownBlock := by
  obtain ⟨iT, hiT, hz1, hz2, hz3⟩ := info3 hI
  have hbb : ∀ k, k ≤ 1000000 → k * bytes ≤ 140737488355328 := fun k hk => Nat.le_trans (Nat.mul_le_mul hk hby) (by decide)
  have hml : maxLen = 9223372036854775807 := rfl
  rcases hu with ⟨rfl, ao, cap, rfl⟩ | ⟨g, off, cap, rfl, _, hc⟩
  · cases ao with
    | none =>
      refine ⟨v, w, ?_, by simpa using hown, ⟨rfl, rfl, rfl, Nat.le_refl _, fun k _ _ => rfl⟩⟩
      rcases hown.2 with ⟨rfl, rfl⟩ | ⟨g, cp, cur, rfl, _, _, hnc, _⟩
      · simp [Builtin.append_, run_underlying ht, sizeOf, typeInfo, hiT, Builtin.lenOf, Builtin.firstCells]
      · simp [Builtin.append_, run_underlying ht, sizeOf, typeInfo, hiT, Builtin.lenOf, Builtin.firstCells, hnc, storeCells]
    | some ad =>
      obtain ⟨v', w', q1, q2, q3, _⟩ := run_append_at (P := Tryz.prog) w t ty base e iT _ 1 bytes ht hiT hz1 hz2 hz3 hzc (by decide) v n xs hown ad 0 cap [] rfl (fun j x hj => (by cases hj)) (fun x hx => (by cases hx)) (by simp at hn; omega) (hbb _ (by simpa using hn)) hb
      exact ⟨v', w', q1, q2, q3⟩
  · obtain ⟨v', w', q1, q2, q3, _⟩ := run_append_at (P := Tryz.prog) w t ty base e iT _ 1 bytes ht hiT hz1 hz2 hz3 hzc (by decide) v n xs hown ⟨g, off, none⟩ ys.length cap ys (by simp) (fun j x hj => by rw [Addr.add_lit]; exact hc j x hj) h1 (by omega) (hbb _ hn) hb
    exact ⟨v', w', q1, q2, q3⟩
/-- So many values are there so far. -/
theorem flat_next {ls : List (List Value)} {k : Nat} {l : List Value} (hl : ls[k]? = some l) : (ls.take (k + 1)).flatten = (ls.take k).flatten ++ l := by
  obtain ⟨hk, rfl⟩ := List.getElem?_eq_some_iff.1 hl
  rw [List.take_succ_eq_append_getElem hk, List.flatten_append]
  simp
theorem flat_le (ls : List (List Value)) (k : Nat) : (ls.take k).flatten.length ≤ ls.flatten.length := by
  have h : ls.flatten = (ls.take k).flatten ++ (ls.drop k).flatten := by rw [← List.flatten_append, List.take_append_drop]
  rw [h, List.length_append]
  omega
end Go.Proofs.YtajfgmlockjmhaiGreatDoor
namespace Go.Proofs.YtajfgmlockjmhaiGreatDoor
open Go.RowKit

theorem fieldsSt : Tryz.prog.underlying 73 = some (.struct (Tryz.prog.fieldsOf 73)) := by kernel_rfl
theorem stoodSt : Tryz.prog.stoodInHeld 73 = false := by kernel_rfl
theorem guardSt : Tryz.prog.eqGuardType Tryz.prog.depth 73 = false := by kernel_rfl
theorem fieldsStIs : Tryz.prog.fieldsOf 73 = #[{ name := "At", type := 3, offset := 0, embedded := false, tag := "", pkgPath := "", byteOffset := 0 }, { name := "Cells", type := 71, offset := 1, embedded := false, tag := "", pkgPath := "", byteOffset := 8 }, { name := "Failed", type := 4, offset := 7, embedded := false, tag := "", pkgPath := "", byteOffset := 56 }] := by kernel_rfl
theorem eqIn_six (a b c d e f : Int) (w : World) : (Op.equalIn 9999 71 (.agg #[.int .i64 a, .int .i64 b, .int .i64 c, .int .i64 d, .int .i64 e, .int .i64 f]) (.agg #[.int .i64 a, .int .i64 b, .int .i64 c, .int .i64 d, .int .i64 e, .int .i64 f])).run Tryz.prog w = .ok true w := by
  obtain ⟨n, hn⟩ : ∃ n, n + 1 = 9999 := ⟨9998, rfl⟩
  obtain ⟨m, hm⟩ : ∃ m, n = m + 1 := ⟨9997, by omega⟩
  rw [← hn]
  clear hn
  have hq : ∀ (x : Int) (w : World), (Op.equalIn n 3 (.int .i64 x) (.int .i64 x)).run Tryz.prog w = .ok true w := fun x w => by
    rw [hm, run_equalIn_int w m 3 .i64 .i64 x x Tryz.underlying3]
    simp
  clear hm
  simp only [Op.equalIn, Sem.run_bind, run_underlying Tryz.underlying71, Result.andThen_ok]
  simp [List.range', go_sem, hq]
theorem eqIn_st (p a b c d e f : Int) (g : Bool) (w : World) : (Op.equalIn 10000 73 (.agg #[.int .i64 p, .int .i64 a, .int .i64 b, .int .i64 c, .int .i64 d, .int .i64 e, .int .i64 f, .bool g]) (.agg #[.int .i64 p, .int .i64 a, .int .i64 b, .int .i64 c, .int .i64 d, .int .i64 e, .int .i64 f, .bool g])).run Tryz.prog w = .ok true w := by
  rw [run_equalIn_agg _ _ _ _ _ fieldsSt stoodSt, fieldsStIs]
  simp [go_sem, Tryz.underlying3, Tryz.underlying4, eqIn_six]
theorem eql_st (p a b c d e f : Int) (g : Bool) (w : World) : (binOp .eql 73 (.agg #[.int .i64 p, .int .i64 a, .int .i64 b, .int .i64 c, .int .i64 d, .int .i64 e, .int .i64 f, .bool g]) (.agg #[.int .i64 p, .int .i64 a, .int .i64 b, .int .i64 c, .int .i64 d, .int .i64 e, .int .i64 f, .bool g])).run Tryz.prog w = .ok (.bool true) w := by
  rw [run_eql_struct, eqIn_st]
  rfl
theorem neq_st (p a b c d e f : Int) (g : Bool) (w : World) : (binOp .neq 73 (.agg #[.int .i64 p, .int .i64 a, .int .i64 b, .int .i64 c, .int .i64 d, .int .i64 e, .int .i64 f, .bool g]) (.agg #[.int .i64 p, .int .i64 a, .int .i64 b, .int .i64 c, .int .i64 d, .int .i64 e, .int .i64 f, .bool g])).run Tryz.prog w = .ok (.bool false) w := by
  rw [run_neq_struct, eqIn_st]
  rfl
end Go.Proofs.YtajfgmlockjmhaiGreatDoor
namespace Go.Proofs.YtajfgmlockjmhaiGreatDoor

/-- What A is below, of an op n. -/
def bA (n : Int) : Int := if n = 7 ∨ n = 10 ∨ n = 11 then 1 else 6
/-- What B is below, of an op n in code of 'ops' ops. -/
def bB (n ops : Int) : Int := if n = 1 then 1000 else if n ≤ 5 then 6 else if n ≤ 7 then ops else if n ≤ 9 then 12 else 1
/-- Whether an op fits in code of so many ops. -/
def fitsB (n a b ops : Int) : Bool := decide (1 ≤ n ∧ n ≤ 11 ∧ 0 ≤ a ∧ a < bA n ∧ 0 ≤ b ∧ b < bB n ops)

theorem fitsB_lo {n a b ops : Int} (h : n < 1) : fitsB n a b ops = false := by simp [fitsB]; omega
theorem fitsB_hi {n a b ops : Int} (h : 11 < n) : fitsB n a b ops = false := by simp [fitsB]; omega
/-- An op: What, A, B. -/
abbrev O3 := Int × Int × Int
def ok3 (ops : Int) (o : O3) : Bool := fitsB o.1 o.2.1 o.2.2 ops
/-- Check: which op is wrong, and how. -/
def chk (l : List O3) : Int × Int :=
  if l.length = 0 then (0, 5) else if 20 < l.length then (0, 4) else
    match l.findIdx? (fun o => !ok3 l.length o) with
    | some i => (i, 1)
    | none => (0, 0)
theorem chk_nil : chk [] = (0, 5) := rfl
theorem chk_long {l : List O3} (h : 20 < l.length) : chk l = (0, 4) := by
  unfold chk
  rw [if_neg (by omega), if_pos h]
theorem chk_bad {l : List O3} {i : Nat} (h0 : l.length ≠ 0) (h1 : ¬ 20 < l.length) (h : l.findIdx? (fun o => !ok3 l.length o) = some i) : chk l = ((i : Int), 1) := by
  unfold chk
  rw [if_neg h0, if_neg h1, h]
theorem chk_good {l : List O3} (h0 : l.length ≠ 0) (h1 : ¬ 20 < l.length) (h : l.findIdx? (fun o => !ok3 l.length o) = none) : chk l = (0, 0) := by
  unfold chk
  rw [if_neg h0, if_neg h1, h]
theorem chk_zero {l : List O3} (h : (chk l).2 = 0) : l.length ≠ 0 ∧ l.length ≤ 20 ∧ ∀ o ∈ l, ok3 l.length o = true := by
  unfold chk at h
  split at h
  · simp at h
  · split at h
    · simp at h
    · rename_i h0 h1
      cases hf : l.findIdx? (fun o => !ok3 l.length o) with
      | some i => rw [hf] at h; simp at h
      | none =>
        rw [List.findIdx?_eq_none_iff] at hf
        exact ⟨h0, by omega, fun o ho => by simpa using hf o ho⟩
theorem chk_fst {l : List O3} (h : (chk l).2 = 0) : chk l = (0, 0) := by
  obtain ⟨h0, h1, h2⟩ := chk_zero h
  exact chk_good h0 (by omega) (by rw [List.findIdx?_eq_none_iff]; intro o ho; simp [h2 o ho])
theorem findIdx_hit {α : Type} {p : α → Bool} : ∀ {l : List α} {k : Nat} {o : α}, (∀ i x, i < k → l[i]? = some x → p x = false) → l[k]? = some o → p o = true → l.findIdx? p = some k
  | [], k, o, _, h, _ => by simp at h
  | x :: l, 0, o, _, h, hp => by simp at h; subst h; simp [List.findIdx?_cons, hp]
  | x :: l, k + 1, o, h0, h, hp => by
    have hx : p x = false := h0 0 x (by omega) rfl
    have := findIdx_hit (l := l) (k := k) (o := o) (fun i y hi hy => h0 (i + 1) y (by omega) (by simpa using hy)) (by simpa using h) hp
    simp [List.findIdx?_cons, hx, this]
theorem findIdx_miss {α : Type} {p : α → Bool} {l : List α} (h : ∀ (i : Nat) x, i < l.length → l[i]? = some x → p x = false) : l.findIdx? p = none := by
  rw [List.findIdx?_eq_none_iff]
  intro x hx
  obtain ⟨i, hi, rfl⟩ := List.getElem_of_mem hx
  exact h i _ hi (by simp [hi])

theorem ok3_range {ops : Int} {o : O3} (h : ok3 ops o = true) : 1 ≤ o.1 ∧ o.1 ≤ 11 ∧ 0 ≤ o.2.1 ∧ o.2.1 < bA o.1 ∧ 0 ≤ o.2.2 ∧ o.2.2 < bB o.1 ops := by
  simpa [ok3, fitsB] using h
theorem bA_le (n : Int) : 1 ≤ bA n ∧ bA n ≤ 6 := by unfold bA; split <;> omega
theorem bB_le (n ops : Int) : bB n ops ≤ max 1000 ops := by unfold bB; split <;> (try split) <;> (try split) <;> (try split) <;> omega
theorem ok3_small {ops : Int} {o : O3} (hops : ops ≤ 1000) (h : ok3 ops o = true) : 1 ≤ o.1 ∧ o.1 ≤ 11 ∧ 0 ≤ o.2.1 ∧ o.2.1 ≤ 5 ∧ 0 ≤ o.2.2 ∧ o.2.2 ≤ 999 := by
  have h1 := ok3_range h
  have h2 := bA_le o.1
  have h3 := bB_le o.1 ops
  omega
end Go.Proofs.YtajfgmlockjmhaiGreatDoor
namespace Go.Proofs.YtajfgmlockjmhaiGreatDoor

/-- A state of a room: where it goes on, its cells, whether it has failed. -/
structure St where
  p : Int
  c : Nat → Int
  f : Bool
/-- One cell changed. -/
def upd (c : Nat → Int) (a : Nat) (v : Int) : Nat → Int := fun i => if i = a then v else c i
/-- Whether all cells are numbers of a room. -/
def cellsOk (c : Nat → Int) : Bool := decide (0 ≤ c 0 ∧ c 0 ≤ 999 ∧ 0 ≤ c 1 ∧ c 1 ≤ 999 ∧ 0 ≤ c 2 ∧ c 2 ≤ 999 ∧ 0 ≤ c 3 ∧ c 3 ≤ 999 ∧ 0 ≤ c 4 ∧ c 4 ≤ 999 ∧ 0 ≤ c 5 ∧ c 5 ≤ 999)
theorem six {P : Nat → Prop} : (∀ i, i < 6 → P i) ↔ (P 0 ∧ P 1 ∧ P 2 ∧ P 3 ∧ P 4 ∧ P 5) := by
  refine ⟨fun h => ⟨h 0 (by omega), h 1 (by omega), h 2 (by omega), h 3 (by omega), h 4 (by omega), h 5 (by omega)⟩, fun ⟨h0, h1, h2, h3, h4, h5⟩ i hi => ?_⟩
  match i, hi with
  | 0, _ => exact h0
  | 1, _ => exact h1
  | 2, _ => exact h2
  | 3, _ => exact h3
  | 4, _ => exact h4
  | 5, _ => exact h5
  | i + 6, h => omega
theorem cellsOk_iff {c : Nat → Int} : cellsOk c = true ↔ ∀ i, i < 6 → 0 ≤ c i ∧ c i ≤ 999 := by
  rw [six]
  simp [cellsOk, and_assoc]
theorem cellsOk_no {c : Nat → Int} (h : ¬ ∀ i, i < 6 → 0 ≤ c i ∧ c i ≤ 999) : cellsOk c = false := by
  rw [← cellsOk_iff] at h
  simpa using h
/-- Whether a state is right in code of so many ops. -/
def stOk (s : St) (n : Nat) : Bool := decide (0 ≤ s.p ∧ s.p < n) && cellsOk s.c
theorem stOk_iff {s : St} {n : Nat} : stOk s n = true ↔ (0 ≤ s.p ∧ s.p < n ∧ ∀ i, i < 6 → 0 ≤ s.c i ∧ s.c i ≤ 999) := by
  simp only [stOk, Bool.and_eq_true, decide_eq_true_eq, cellsOk_iff, and_assoc]
/-- Check of code and a state: the error. -/
def rchk (l : List O3) (s : St) : Int := if (chk l).2 = 0 then (if stOk s l.length = true then 0 else 1) else (chk l).2
/-- Check, and what is there to be taken. -/
def gchk (l : List O3) (s : St) (got : Int) (is : Bool) : Int := if rchk l s = 0 then (if is = true ∧ (got < 0 ∨ 999 < got) then 1 else 0) else rchk l s
/-- The cells as an op leaves them. -/
def cellsF (o : O3) (c : Nat → Int) (got : Int) (is : Bool) : Nat → Int :=
  if o.1 = 1 then upd c o.2.1.toNat o.2.2 else if o.1 = 2 then upd c o.2.1.toNat (c o.2.2.toNat) else
  if o.1 = 3 then upd c o.2.1.toNat ((c o.2.1.toNat + c o.2.2.toNat) % 1000) else
  if o.1 = 4 then upd c o.2.1.toNat ((c o.2.1.toNat - c o.2.2.toNat + 1000) % 1000) else
  if o.1 = 5 then upd c o.2.1.toNat ((c o.2.1.toNat * c o.2.2.toNat) % 1000) else
  if o.1 = 9 then (if is = true then upd c o.2.1.toNat got else c) else c
/-- The next place. -/
def nextF (o : O3) (s : St) (n : Nat) (is : Bool) : Int :=
  if o.1 = 7 ∨ (o.1 = 6 ∧ s.c o.2.1.toNat = 0) then o.2.2 else if o.1 = 11 ∨ (o.1 = 9 ∧ is = false) then s.p else if s.p + 1 = n then 0 else s.p + 1
/-- What an op sends. -/
def sentF (o : O3) (c : Nat → Int) : Int := if o.1 = 8 then c o.2.1.toNat else -1
/-- A step of a state that is right. -/
def stepF (o : O3) (s : St) (n : Nat) (got : Int) (is : Bool) : St := if s.f = true then s else ⟨nextF o s n is, cellsF o s.c got is, decide (o.1 = 11)⟩
def sendF (o : O3) (s : St) : Int := if s.f = true then -1 else sentF o s.c
/-- What comes of a step. -/
def whatF (o : O3) (s : St) (is : Bool) : Int := if s.f = true then 5 else if o.1 = 8 then 1 else if o.1 = 9 then (if is = true then 2 else 3) else if o.1 = 11 then 4 else 0
end Go.Proofs.YtajfgmlockjmhaiGreatDoor
namespace Go.Proofs.YtajfgmlockjmhaiGreatDoor

/-- The numbers from s on, k many, of which p says yes. -/
def pickN (p : Nat → Bool) (s k : Nat) : List Int := ((List.range' s k).filter p).map Int.ofNat
/-- An op of that What on that wire. -/
def onW (what : Int) (i : Nat) (o : O3) : Bool := decide (o.1 = what) && decide (o.2.2 = (i : Int))
def wiresB (what : Int) (l : List O3) : List Int := pickN (fun i => l.any (onW what i)) 0 12
/-- The first i wires of them. -/
theorem pick_snoc (p : Nat → Bool) (k : Nat) : pickN p 0 (k + 1) = if p k then pickN p 0 k ++ [(k : Int)] else pickN p 0 k := by
  unfold pickN
  rw [List.range'_1_concat, List.filter_append, List.map_append]
  simp only [Nat.zero_add, List.filter_cons, List.filter_nil]
  split <;> simp
theorem pick_len (p : Nat → Bool) (k : Nat) : (pickN p 0 k).length ≤ k := by
  unfold pickN
  rw [List.length_map]
  have := List.length_filter_le p (List.range' 0 k)
  simpa using this
end Go.Proofs.YtajfgmlockjmhaiGreatDoor
namespace Go.Proofs.YtajfgmlockjmhaiGreatDoor

theorem upd_ok {c : Nat → Int} {a : Nat} {v : Int} (hc : ∀ i, i < 6 → 0 ≤ c i ∧ c i ≤ 999) (hv : 0 ≤ v ∧ v ≤ 999) : ∀ i, i < 6 → 0 ≤ upd c a v i ∧ upd c a v i ≤ 999 := by
  intro i hi
  unfold upd
  split
  · exact hv
  · exact hc i hi
theorem mod_ok (x : Int) : 0 ≤ x % 1000 ∧ x % 1000 ≤ 999 := by omega
theorem cellsF_ok {o : O3} {c : Nat → Int} {got : Int} {is : Bool} (hc : ∀ i, i < 6 → 0 ≤ c i ∧ c i ≤ 999) (h1 : o.1 = 1 → 0 ≤ o.2.2 ∧ o.2.2 ≤ 999) (h2 : o.1 = 2 → o.2.2.toNat < 6) (hg : is = true → 0 ≤ got ∧ got ≤ 999) : ∀ i, i < 6 → 0 ≤ cellsF o c got is i ∧ cellsF o c got is i ≤ 999 := by
  unfold cellsF
  split
  · rename_i h; exact upd_ok hc (h1 h)
  split
  · rename_i h; exact upd_ok hc (hc _ (h2 h))
  split
  · exact upd_ok hc (mod_ok _)
  split
  · exact upd_ok hc (mod_ok _)
  split
  · exact upd_ok hc (mod_ok _)
  split
  · split
    · rename_i h; exact upd_ok hc (hg h)
    · exact hc
  · exact hc
theorem nextF_ok {o : O3} {s : St} {n : Nat} {is : Bool} (h0 : 0 ≤ s.p) (h1 : s.p < n) (hb : o.1 = 6 ∨ o.1 = 7 → 0 ≤ o.2.2 ∧ o.2.2 < n) : 0 ≤ nextF o s n is ∧ nextF o s n is < n := by
  unfold nextF
  split
  · rename_i h
    exact hb (by rcases h with h | h; exact Or.inr h; exact Or.inl h.1)
  split
  · exact ⟨h0, h1⟩
  split
  · omega
  · omega
theorem sentF_ok {o : O3} {c : Nat → Int} (hc : ∀ i, i < 6 → 0 ≤ c i ∧ c i ≤ 999) (ha : o.2.1.toNat < 6) : -1 ≤ sentF o c ∧ sentF o c ≤ 999 := by
  unfold sentF
  split
  · have := hc _ ha; omega
  · omega
theorem sentF_send {o : O3} {c : Nat → Int} (h : 0 ≤ sentF o c) : o.1 = 8 := by
  unfold sentF at h
  split at h
  · assumption
  · omega
end Go.Proofs.YtajfgmlockjmhaiGreatDoor
namespace Go.Proofs.YtajfgmlockjmhaiGreatDoor
def tail (zs : List Int) : List UInt8 := zs.flatMap fun z => 32 :: Lib.itoa z
def lineB (word : List UInt8) (zs : List Int) : List UInt8 := word ++ tail zs ++ [10]
theorem ba_size (l : List UInt8) : (ByteArray.mk l.toArray).size = l.length := by simp [ByteArray.size]
theorem tail_snoc (zs : List Int) (z : Int) : tail (zs ++ [z]) = tail zs ++ ([32] ++ Lib.itoa z) := by simp [tail]
theorem tail_le (zs : List Int) (h : ∀ z ∈ zs, -9223372036854775808 ≤ z ∧ z ≤ 9223372036854775807) : (tail zs).length ≤ 22 * zs.length := by
  induction zs with
  | nil => simp [tail]
  | cons z zs ih =>
    have h1 := ih (fun y hy => h y (by simp [hy]))
    have h2 := Lib.itoa_length_le z (h z (by simp)).1 (h z (by simp)).2
    simp only [tail, List.flatMap_cons, List.length_append, List.length_cons] at h1 ⊢
    omega
/-- The bounds of an op's numbers as the table has them. -/
def pA (n : Int) : Int := bA n
def pB (n : Int) : Int := bB n 0
end Go.Proofs.YtajfgmlockjmhaiGreatDoor
namespace Go.Proofs.YtajfgmlockjmhaiGreatDoor
open Go.RowKit

def sv (l : List UInt8) : Value := .string ⟨l.toArray⟩
theorem lt_of_cell {w : World} {b o : Nat} {v : Value} (h : w.cell? ⟨b, o, none⟩ = some v) : b < w.heap.size := by
  rcases Nat.lt_or_ge b w.heap.size with h' | h'
  · exact h'
  · simp [World.cell?, Array.getElem?_eq_none h'] at h
theorem ret_bool {a b : Bool} (h : a = b) : Ending.returned (.bool a) = .returned (.bool b) := by rw [h]
theorem ret_int {k : IntKind} {a b : Int} (h : a = b) : Ending.returned (.int k a) = .returned (.int k b) := by rw [h]
theorem grown_of_below {w w' : World} (h : Below w.heap.size w w') : w.grownBy w' none := ⟨h.os, h.tape, h.output, h.size, fun k hk _ => h.block k hk⟩
theorem own_all {w w' : World} {base : Nat} {e : TypeId} {size : Nat} {v : Value} {n : Nat} {xs : List Value} (h : w.ownsRow base e size v n xs) (hb : Below w.heap.size w w') : w'.ownsRow base e size v n xs :=
  h.kept (grown_of_below hb) (by cases v.ownBlock <;> simp)
/-- A slice of numbers that can be read in the world. -/
def Ints (w : World) (v : Value) (zs : List Int) : Prop :=
  (v = .slice none 0 0 ∧ zs = []) ∨ ∃ a cap, v = .slice (some a) zs.length cap ∧ a.block < w.heap.size ∧ ∀ (i : Nat) z, zs[i]? = some z → w.cell? (a.add i) = some (.int .i64 z)
/-- Code that can be read in the world. -/
def Ops (w : World) (v : Value) (l : List O3) : Prop :=
  (l = [] ∧ ∃ ao cap, v = .slice ao 0 cap) ∨
  ∃ b off cap, v = .slice (some ⟨b, off, none⟩) l.length cap ∧ b < w.heap.size ∧
    ∀ (i : Nat) o, l[i]? = some o → w.cell? ⟨b, off + i * 3, none⟩ = some (.int .i64 o.1) ∧ w.cell? ⟨b, off + i * 3 + 1, none⟩ = some (.int .i64 o.2.1) ∧ w.cell? ⟨b, off + i * 3 + 2, none⟩ = some (.int .i64 o.2.2)
theorem Ops.all {w w' : World} {v : Value} {l : List O3} (h : Ops w v l) (hb : Below w.heap.size w w') : Ops w' v l := by
  rcases h with h | ⟨b, off, cap, rfl, hlt, hc⟩
  · exact Or.inl h
  · exact Or.inr ⟨b, off, cap, rfl, Nat.lt_of_lt_of_le hlt hb.size, fun i o ho => by
      obtain ⟨h0, h1, h2⟩ := hc i o ho
      exact ⟨(hb.cell (p := ⟨b, _, none⟩) hlt).trans h0, (hb.cell (p := ⟨b, _, none⟩) hlt).trans h1, (hb.cell (p := ⟨b, _, none⟩) hlt).trans h2⟩⟩
theorem Ops.form {w : World} {v : Value} {l : List O3} (h : Ops w v l) : ∃ ao cap, v = .slice ao l.length cap := by
  rcases h with ⟨rfl, ao, cap, rfl⟩ | ⟨b, off, cap, rfl, _⟩
  · exact ⟨ao, cap, rfl⟩
  · exact ⟨_, cap, rfl⟩
/-- An error as a value. -/
def errV (e : Int) : Value := if e = 0 then .nilIface else .iface 93 (.int .i64 e)
theorem add_block (a : Addr) (k : Nat) : (a.add k).block = a.block := by unfold Addr.add; split <;> rfl
theorem infoIntC : (Tryz.prog.info? 3).map (fun i => (i.zero, i.size, i.bytes)) = some (some (.int .i64 0), 1, 8) := by kernel_rfl
theorem ints_of_own {w : World} {base : Nat} {v : Value} {zs : List Int} (h : w.ownsRow base 3 1 v zs.length (zs.map (Value.int .i64))) : Ints w v zs := by
  have hl := h.lt
  have hcs := @World.ownsRow.cells _ _ _ _ _ _ _ h
  rcases h.2 with ⟨rfl, h0⟩ | ⟨g, cap, cur, rfl, _⟩
  · exact Or.inl ⟨rfl, List.eq_nil_of_length_eq_zero h0⟩
  · refine Or.inr ⟨⟨g, 0, none⟩, cap, rfl, (hl g rfl).2, fun i z hz => ?_⟩
    exact hcs rfl i _ (by simp [hz])
theorem ints_all {w w' : World} {v : Value} {zs : List Int} (h : Ints w v zs) (hb : Below w.heap.size w w') : Ints w' v zs := by
  rcases h with h | ⟨a, cap, rfl, ha, hc⟩
  · exact Or.inl h
  · exact Or.inr ⟨a, cap, rfl, Nat.lt_of_lt_of_le ha hb.size, fun i z hz => (hb.cell (p := a.add i) (by rw [add_block]; exact ha)).trans (hc i z hz)⟩
theorem slice_form {w : World} {base t n k : Nat} {v : Value} {cs : List Value} (R : w.ownsRow base t k v n cs) : ∃ g n' cap, v = .slice g n' cap := by
  rcases R.2 with ⟨h, _⟩ | ⟨g, cap, cur, h, _⟩
  · exact ⟨_, _, _, h⟩
  · exact ⟨_, _, _, h⟩

end Go.Proofs.YtajfgmlockjmhaiGreatDoor
namespace Go.Proofs.YtajfgmlockjmhaiGreatDoor
open Go.RowKit

/-- The cells of the table of forms. -/
def formsCells : List Value := [
  .string ⟨#[]⟩, .int .i64 0, .int .i64 0,
  .string ⟨#[115, 101, 116]⟩, .int .i64 6, .int .i64 1000,
  .string ⟨#[99, 111, 112, 121]⟩, .int .i64 6, .int .i64 6,
  .string ⟨#[97, 100, 100]⟩, .int .i64 6, .int .i64 6,
  .string ⟨#[115, 117, 98]⟩, .int .i64 6, .int .i64 6,
  .string ⟨#[109, 117, 108]⟩, .int .i64 6, .int .i64 6,
  .string ⟨#[122, 101, 114, 111]⟩, .int .i64 6, .int .i64 0,
  .string ⟨#[106, 117, 109, 112]⟩, .int .i64 1, .int .i64 0,
  .string ⟨#[115, 101, 110, 100]⟩, .int .i64 6, .int .i64 12,
  .string ⟨#[116, 97, 107, 101]⟩, .int .i64 6, .int .i64 12,
  .string ⟨#[114, 101, 115, 116]⟩, .int .i64 1, .int .i64 1,
  .string ⟨#[102, 97, 105, 108]⟩, .int .i64 1, .int .i64 1]
/-- The table of forms lies in the world. -/
def Forms (w : World) : Prop := ∀ i v, formsCells[i]? = some v → w.cell? ⟨2, i, none⟩ = some v

theorem Forms.below {B : Nat} {w w' : World} (hf : Forms w) (hb : Below B w w') (hB : 2 < B) : Forms w' :=
  fun i v h => (hb.cell (p := ⟨_, i, none⟩) hB).trans (hf i v h)
theorem Forms.lt {w : World} (hf : Forms w) : 2 < w.heap.size := lt_of_cell (hf 0 _ rfl)
theorem Forms.all {w w' : World} (hf : Forms w) (hb : Below w.heap.size w w') : Forms w' := hf.below hb hf.lt
theorem Forms.alloc {w : World} (hf : Forms w) (o : Obj) : Forms (w.alloc o) := hf.all ((Below.refl _ _).alloc (Nat.le_refl _) _)
theorem Forms.drew {w : World} (hf : Forms w) : Forms w.drew := hf.all (Below.refl _ _).drew
end Go.Proofs.YtajfgmlockjmhaiGreatDoor
namespace Go.Proofs.YtajfgmlockjmhaiGreatDoor
open Go.RowKit

theorem Ops.block {w w' : World} {v : Value} {l : List O3} (h : Ops w v l) (hb : ∀ k, k < w.heap.size → v.ownBlock = some k → w'.heap[k]? = w.heap[k]?) (hs : w.heap.size ≤ w'.heap.size) : Ops w' v l := by
  rcases h with h | ⟨b, off, cap, rfl, hlt, hc⟩
  · exact Or.inl h
  · have hk := hb b hlt rfl
    refine Or.inr ⟨b, off, cap, rfl, by omega, fun i o ho => ?_⟩
    obtain ⟨h0, h1, h2⟩ := hc i o ho
    exact ⟨(World.cell?_of_block (w := w) (a := ⟨b, _, none⟩) hk).trans h0, (World.cell?_of_block (w := w) (a := ⟨b, _, none⟩) hk).trans h1, (World.cell?_of_block (w := w) (a := ⟨b, _, none⟩) hk).trans h2⟩
theorem Ops.lt {w : World} {v : Value} {l : List O3} (h : Ops w v l) (hl : l ≠ []) : ∀ g, v.ownBlock = some g → g < w.heap.size := fun g hg => by
  rcases h with ⟨rfl, _⟩ | ⟨b, off, cap, rfl, hlt, _⟩
  · exact absurd rfl hl
  · simp only [Value.ownBlock, Option.some.injEq] at hg
    omega
end Go.Proofs.YtajfgmlockjmhaiGreatDoor
namespace Go.Proofs.YtajfgmlockjmhaiGreatDoor

end Go.Proofs.YtajfgmlockjmhaiGreatDoor
namespace Go.Proofs.YtajfgmlockjmhaiGreatDoor

end Go.Proofs.YtajfgmlockjmhaiGreatDoor
namespace Go.Proofs.YtajfgmlockjmhaiGreatDoor

/-- The last piece has no newline; the lines are the others, each with one, and it. -/
theorem cut_lines : ∀ (l cur : List UInt8), (10 : UInt8) ∉ cur → ∃ ps q, cutGo 10 cur l = ps ++ [q] ∧ (10 : UInt8) ∉ q ∧ linesGo cur l = ps.map (· ++ [10]) ++ (if q = [] then [] else [q])
  | [], cur, h => ⟨[], cur, rfl, h, by simp [linesGo]⟩
  | x :: xs, cur, h => by
    by_cases hx : x = 10
    · obtain ⟨ps, q, h1, h2, h3⟩ := cut_lines xs [] (by simp)
      refine ⟨cur :: ps, q, ?_, h2, ?_⟩
      · rw [cutGo_hit hx, h1]; rfl
      · rw [linesGo, if_pos hx, h3]; rfl
    · obtain ⟨ps, q, h1, h2, h3⟩ := cut_lines xs (cur ++ [x]) (by simp [h]; exact fun e => hx e.symm)
      refine ⟨ps, q, ?_, h2, ?_⟩
      · rw [cutGo_miss hx, h1]
      · rw [linesGo, if_neg hx, h3]
end Go.Proofs.YtajfgmlockjmhaiGreatDoor
