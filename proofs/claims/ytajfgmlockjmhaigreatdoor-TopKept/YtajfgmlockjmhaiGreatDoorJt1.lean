/-
  CutMath, ExtEq, WMath, FlowMath, EBase, WStp, WVal, FlowBase, BoxTk, Info3, PushL, QuietLast, AppendAt, AppStrAt, FrameMath, RangeState, RangeHeld, SeqMath, FBase, FrameOwn, RdV, StEq: joined into one text.
-/
import Derived.Lib.Strings
import Derived.Test.YtajfgmlockjmhaiGreatDoorRows
import Derived.WalkKit
import Derived.Deep.QuietTactic
import Derived.RangeFuncOwn
import Derived.Deep.RegionHeld3
import Derived.BigQuiet
import Derived.Deep.MidRow
import Derived.Deep.RegionLaw
import Derived.Lib.AppendStr
import Derived.Lib.UnsafeStr
import Derived.RangeFuncNested
import Derived.RangeFuncBound
import Derived.RangeFuncCalls
import Derived.RangeFuncLeaves
import Derived.Lib.Bytealg
import Derived.Laws.OwnMore
import Derived.Laws.StructEq
namespace Go.Proofs.YtajfgmlockjmhaiGreatDoor

/-- What is left to cut, 'cur' the piece begun. -/
def cutGo (c : UInt8) : List UInt8 → List UInt8 → List (List UInt8)
  | cur, [] => [cur]
  | cur, x :: xs => if x = c then cur :: cutGo c [] xs else cutGo c (cur ++ [x]) xs
def cutB (c : UInt8) (l : List UInt8) : List (List UInt8) := cutGo c [] l
theorem cutGo_hit {c x : UInt8} (h : x = c) (cur xs : List UInt8) : cutGo c cur (x :: xs) = cur :: cutGo c [] xs := by simp [cutGo, h]
theorem cutGo_miss {c x : UInt8} (h : x ≠ c) (cur xs : List UInt8) : cutGo c cur (x :: xs) = cutGo c (cur ++ [x]) xs := by simp [cutGo, h]
theorem cutGo_len (c : UInt8) : ∀ (l cur : List UInt8), 1 ≤ (cutGo c cur l).length ∧ (cutGo c cur l).length ≤ l.length + 1
  | [], cur => by simp [cutGo]
  | x :: xs, cur => by
    by_cases h : x = c
    · rw [cutGo_hit h]; have := cutGo_len c xs []; simp; omega
    · rw [cutGo_miss h]; have := cutGo_len c xs (cur ++ [x]); simp; omega
theorem cutGo_app (c : UInt8) : ∀ (l cur m : List UInt8), c ∉ l → cutGo c cur (l ++ m) = cutGo c (cur ++ l) m
  | [], cur, m, _ => by simp
  | x :: xs, cur, m, h => by
    have hx : x ≠ c := fun e => h (by simp [e])
    have hxs : c ∉ xs := fun e => h (by simp [e])
    rw [List.cons_append, cutGo_miss hx, cutGo_app c xs _ m hxs]; simp
/-- What is cut joins to what was. -/
theorem cutGo_none (c : UInt8) (l cur : List UInt8) (h : c ∉ l) : cutGo c cur l = [cur ++ l] := by
  have := cutGo_app c l cur [] h
  simpa [cutGo] using this
theorem cutGo_at (c : UInt8) (l cur m : List UInt8) (h : c ∉ l) : cutGo c cur (l ++ c :: m) = (cur ++ l) :: cutB c m := by
  rw [cutGo_app c l cur _ h, cutGo_hit rfl]; rfl

end Go.Proofs.YtajfgmlockjmhaiGreatDoor
namespace Go.Proofs.YtajfgmlockjmhaiGreatDoor

theorem ext_eq (s : ByteArray) (f k : Nat) : s.extract f k = ⟨((s.data.toList.take k).drop f).toArray⟩ := by
  apply ByteArray.ext
  apply Array.toList_inj.1
  simp [List.drop_take]
end Go.Proofs.YtajfgmlockjmhaiGreatDoor
namespace Go.Proofs.YtajfgmlockjmhaiGreatDoor

/-- How deep a wire of a kind may be. -/
def dpst (k : Int) : Int := if k = 1 then 1 else if k = 2 then 6 else 0
/-- What is wrong with a wire. -/
def wchk (f t k d : Int) : Int :=
  if 0 ≤ f ∧ f < 5 ∧ 0 ≤ t ∧ t < 5 ∧ 1 ≤ d ∧ d ≤ dpst k then (if f = t then 3 else 0) else 1
theorem wchk_kind {f t k d : Int} (h : wchk f t k d = 0) : (k = 1 ∧ d = 1) ∨ (k = 2 ∧ 1 ≤ d ∧ d ≤ 6) := by
  unfold wchk dpst at h
  by_cases h1 : k = 1
  · subst h1
    simp at h
    omega
  · by_cases h2 : k = 2
    · subst h2
      simp at h
      omega
    · simp [h1, h2] at h
      omega
end Go.Proofs.YtajfgmlockjmhaiGreatDoor
namespace Go.Proofs.YtajfgmlockjmhaiGreatDoor

/-- A wire: from, to, kind, deep. -/
abbrev W4 := Int × Int × Int × Int
def w4chk (x : W4) : Int := wchk x.1 x.2.1 x.2.2.1 x.2.2.2
/-- Is there a wire from one to another one, or are they the same? -/
def edge (l : List W4) (i k : Nat) : Bool := decide (i = k) || l.any fun x => decide (x.1 = (i : Int)) && decide (x.2.1 = (k : Int))
/-- Is there a way, with none but rooms below m between? -/
def pm (e : Nat → Nat → Bool) : Nat → Nat → Nat → Bool
  | 0, i, k => e i k
  | m + 1, i, k => pm e m i k || (pm e m i m && pm e m m k)
/-- Who reaches whom. -/
def way (l : List W4) (i k : Nat) : Bool := pm (edge l) 5 i k
/-- The first that is wrong. -/
def wscan : List W4 → Nat → Int × Int
  | [], _ => (0, 0)
  | x :: l, i => if w4chk x = 0 then wscan l (i + 1) else ((i : Int), w4chk x)
/-- What is wrong with wires: which, and how. -/
def wschk (l : List W4) : Int × Int := if 12 < l.length then (0, 4) else wscan l 0
theorem wscan_ok : ∀ {l : List W4} {i : Nat}, (wscan l i).2 = 0 → ∀ x ∈ l, w4chk x = 0
  | [], _, _, x, hx => by simp at hx
  | y :: l, i, h, x, hx => by
    unfold wscan at h
    by_cases hy : w4chk y = 0
    · rw [if_pos hy] at h
      rcases List.mem_cons.1 hx with rfl | hx
      · exact hy
      · exact wscan_ok h x hx
    · rw [if_neg hy] at h
      exact absurd h hy
theorem wschk_ok {l : List W4} (h : (wschk l).2 = 0) : l.length ≤ 12 ∧ ∀ x ∈ l, w4chk x = 0 := by
  unfold wschk at h
  by_cases hl : 12 < l.length
  · rw [if_pos hl] at h; simp at h
  · rw [if_neg hl] at h
    exact ⟨by omega, wscan_ok h⟩
theorem wscan_skip : ∀ (l : List W4) (k i : Nat), (∀ j x, j < k → l[j]? = some x → w4chk x = 0) → wscan l i = wscan (l.drop k) (i + k)
  | l, 0, i, _ => by simp
  | [], k + 1, i, _ => by simp [wscan]
  | x :: l, k + 1, i, h => by
    have hx : w4chk x = 0 := h 0 x (by omega) rfl
    have := wscan_skip l k (i + 1) (fun j y hj hy => h (j + 1) y (by omega) (by simpa using hy))
    simp only [wscan, hx, if_true, List.drop_succ_cons, this]
    congr 1
    omega
theorem wscan_hit {l : List W4} {k : Nat} {x : W4} (h : ∀ j y, j < k → l[j]? = some y → w4chk y = 0) (hx : l[k]? = some x) (hb : w4chk x ≠ 0) : wscan l 0 = ((k : Int), w4chk x) := by
  rw [wscan_skip l k 0 h]
  obtain ⟨hk, rfl⟩ := List.getElem?_eq_some_iff.1 hx
  rw [List.drop_eq_getElem_cons hk, wscan, if_neg hb, Nat.zero_add]
theorem wscan_none {l : List W4} (h : ∀ j y, j < l.length → l[j]? = some y → w4chk y = 0) : wscan l 0 = (0, 0) := by
  rw [wscan_skip l l.length 0 h]
  simp [wscan]
end Go.Proofs.YtajfgmlockjmhaiGreatDoor
namespace Go.Proofs.YtajfgmlockjmhaiGreatDoor
open Go.RowKit

theorem wlt {w : World} {b o : Nat} {v : Value} (h : w.cell? ⟨b, o, none⟩ = some v) : b < w.heap.size := by
  rcases Nat.lt_or_ge b w.heap.size with h' | h'
  · exact h'
  · simp [World.cell?, Array.getElem?_eq_none h'] at h
theorem below_dN {B : Nat} {w w' : World} (h : Below B w w') : ∀ n, Below B w (w'.drewN n)
  | 0 => h
  | n + 1 => (below_dN h n).drew
/-- An error as a value. -/
def wErr (e : Int) : Value := if e = 0 then .nilIface else .iface 93 (.int .i64 e)
theorem wErr_not {e : Int} (h : e ≠ 0) : wErr e = .iface 93 (.int .i64 e) := by simp [wErr, h]
end Go.Proofs.YtajfgmlockjmhaiGreatDoor
namespace Go.Proofs.YtajfgmlockjmhaiGreatDoor
open Go.RowKit

/-- Steps that came in. -/
def Stp (w : World) (v : Value) (l : List Int) : Prop := (l = [] ∧ ∃ ao cap, v = .slice ao 0 cap) ∨ ∃ b off cap, v = .slice (some ⟨b, off, none⟩) l.length cap ∧ b < w.heap.size ∧ ∀ (i : Nat) x, l[i]? = some x → w.cell? ⟨b, off + i, none⟩ = some (.int .i64 x)
theorem Stp.form {w : World} {v : Value} {l : List Int} (h : Stp w v l) : ∃ ao cap, v = .slice ao l.length cap := by
  rcases h with ⟨rfl, ao, cap, rfl⟩ | ⟨b, off, cap, rfl, _⟩
  · exact ⟨ao, cap, rfl⟩
  · exact ⟨_, cap, rfl⟩
theorem Stp.at {w wr : World} {ao : Option Addr} {cap : Nat} {l : List Int} (h : Stp w (.slice ao l.length cap) l) (hb : Below w.heap.size w wr) {i : Nat} (hi : i < l.length) : ∃ b off x, ao = some ⟨b, off, none⟩ ∧ wr.cell? ⟨b, off + i, none⟩ = some (.int .i64 x) ∧ l[i]? = some x := by
  rcases h with ⟨rfl, _⟩ | ⟨b, off, cap', e, hlt, hc⟩
  · simp at hi
  · injection e with e1
    exact ⟨b, off, l[i], e1, (hb.cell (p := ⟨b, _, none⟩) hlt).trans (hc i _ (List.getElem?_eq_getElem hi)), List.getElem?_eq_getElem hi⟩
theorem Stp.every {w w' : World} {v : Value} {l : List Int} (h : Stp w v l) (hb : Below w.heap.size w w') : Stp w' v l := by
  rcases h with h | ⟨b, off, cap, rfl, hlt, hc⟩
  · exact Or.inl h
  · exact Or.inr ⟨b, off, cap, rfl, Nat.lt_of_lt_of_le hlt hb.size, fun i x hx => (hb.cell (p := ⟨b, _, none⟩) hlt).trans (hc i x hx)⟩
end Go.Proofs.YtajfgmlockjmhaiGreatDoor
namespace Go.Proofs.YtajfgmlockjmhaiGreatDoor
open Go.RowKit

/-- A wire as a value. -/
def wV (f t k d : Int) : Value := .agg #[.int .i64 f, .int .i64 t, .int .i64 k, .int .i64 d]
end Go.Proofs.YtajfgmlockjmhaiGreatDoor
namespace Go.Proofs.YtajfgmlockjmhaiGreatDoor
open Go.RowKit

/-- The cells of wires. -/
def WrC (w : World) (b off : Nat) (l : List W4) : Prop := ∀ (i : Nat) x, l[i]? = some x → w.cell? ⟨b, off + i * 4, none⟩ = some (.int .i64 x.1) ∧ w.cell? ⟨b, off + i * 4 + 1, none⟩ = some (.int .i64 x.2.1) ∧ w.cell? ⟨b, off + i * 4 + 2, none⟩ = some (.int .i64 x.2.2.1) ∧ w.cell? ⟨b, off + i * 4 + 3, none⟩ = some (.int .i64 x.2.2.2)
/-- Wires that can be read. -/
def Wrs (w : World) (v : Value) (l : List W4) : Prop :=
  (l = [] ∧ ∃ ao cap, v = .slice ao 0 cap) ∨ ∃ b off cap, v = .slice (some ⟨b, off, none⟩) l.length cap ∧ l.length ≤ cap ∧ b < w.heap.size ∧ WrC w b off l
theorem WrC.below {w w' : World} {b off B : Nat} {l : List W4} (h : WrC w b off l) (hb : Below B w w') (hlt : b < B) : WrC w' b off l := fun i o ho => by
  obtain ⟨h0, h1, h2, h3⟩ := h i o ho
  exact ⟨(hb.cell (p := ⟨b, _, none⟩) hlt).trans h0, (hb.cell (p := ⟨b, _, none⟩) hlt).trans h1, (hb.cell (p := ⟨b, _, none⟩) hlt).trans h2, (hb.cell (p := ⟨b, _, none⟩) hlt).trans h3⟩
theorem Wrs.all {w w' : World} {v : Value} {l : List W4} (h : Wrs w v l) (hb : Below w.heap.size w w') : Wrs w' v l := by
  rcases h with h | ⟨b, off, cap, rfl, hcap, hlt, hc⟩
  · exact Or.inl h
  · exact Or.inr ⟨b, off, cap, rfl, hcap, Nat.lt_of_lt_of_le hlt hb.size, hc.below hb hlt⟩
theorem Wrs.form {w : World} {v : Value} {l : List W4} (h : Wrs w v l) : ∃ ao cap, v = .slice ao l.length cap := by
  rcases h with ⟨rfl, ao, cap, rfl⟩ | ⟨b, off, cap, rfl, _⟩
  · exact ⟨ao, cap, rfl⟩
  · exact ⟨_, cap, rfl⟩
theorem Wrs.at {w : World} {ao : Option Addr} {cap : Nat} {l : List W4} (h : Wrs w (.slice ao l.length cap) l) {i : Nat} (hi : i < l.length) : ∃ b off f t k d, ao = some ⟨b, off, none⟩ ∧ b < w.heap.size ∧ l[i]? = some (f, t, k, d) ∧ w.cell? ⟨b, off + i * 4, none⟩ = some (.int .i64 f) ∧ w.cell? ⟨b, off + i * 4 + 1, none⟩ = some (.int .i64 t) ∧ w.cell? ⟨b, off + i * 4 + 2, none⟩ = some (.int .i64 k) ∧ w.cell? ⟨b, off + i * 4 + 3, none⟩ = some (.int .i64 d) := by
  rcases h with ⟨rfl, _⟩ | ⟨b, off, cap', e, _, hlt, hc⟩
  · simp at hi
  · injection e with e1
    obtain ⟨⟨f, t, k, d⟩, hx'⟩ : ∃ x : W4, l[i]? = some x := ⟨l[i], List.getElem?_eq_getElem hi⟩
    obtain ⟨h0, h1, h2, h3⟩ := hc i _ hx'
    exact ⟨b, off, f, t, k, d, e1, hlt, hx', h0, h1, h2, h3⟩
end Go.Proofs.YtajfgmlockjmhaiGreatDoor
namespace Go.Proofs.YtajfgmlockjmhaiGreatDoor
open Go.RowKit

/-- What a step on a box leaves alone. -/
structure Tk (base pb : Nat) (W W' : World) : Prop where
  others : KeepsOthers W W'
  blk : ∀ k, k < base → k ≠ pb → W'.heap[k]? = W.heap[k]?
  low : Below pb W W'
theorem Tk.refl (base pb : Nat) (W : World) : Tk base pb W W := ⟨KeepsOthers.refl W, fun _ _ _ => rfl, Below.refl _ _⟩
theorem Tk.trans {base pb : Nat} {A B C : World} (h : Tk base pb A B) (k : Tk base pb B C) : Tk base pb A C := ⟨h.others.trans k.others, fun j h1 h2 => (k.blk j h1 h2).trans (h.blk j h1 h2), h.low.trans k.low⟩
theorem Tk.of_below {base pb : Nat} {W W' : World} (hb : Below W.heap.size W W') (h1 : base ≤ W.heap.size) (h2 : pb < base) : Tk base pb W W' :=
  ⟨⟨hb.size, fun k _ hk _ => (hb.block k (Array.getElem?_eq_some_iff.1 hk).1).trans hk⟩, fun k hk _ => hb.block k (by omega), hb.mono (by omega)⟩
theorem Tk.set (base : Nat) {pb : Nat} (W : World) (i : Nat) (v : Value) : Tk base pb W (W.setCell ⟨pb, i, none⟩ v) :=
  ⟨KeepsOthers.setCell _ _ _, fun _ _ hk => Below.heap_setCell _ _ _ _ hk, (Below.refl _ _).setCell (p := ⟨pb, i, none⟩) (Nat.le_refl _) _⟩
theorem Tk.grown {base pb : Nat} {W W' : World} {e : TypeId} {size n : Nat} {v : Value} {xs : List Value} (hown : W.ownsRow base e size v n xs) (hg : W.grownBy W' v.ownBlock) (h1 : base ≤ W.heap.size) (h2 : pb < base) : Tk base pb W W' := by
  have hrow : ∀ j, v.ownBlock = some j → base ≤ j ∧ ∃ c fz, W.heap[j]? = some (.cells c e fz) := fun j hj => by
    refine ⟨(hown.lt j hj).1, ?_⟩
    rcases hown.2 with ⟨hv, _⟩ | ⟨g, cap, cur, hv, _, hgc, _⟩
    · rw [hv] at hj; cases hj
    · rw [hv] at hj
      simp only [Value.ownBlock, Option.some.injEq] at hj
      exact ⟨_, _, by rw [← hj]; exact hgc⟩
  refine ⟨⟨hg.size, fun k o hk ho => ?_⟩, fun k hk _ => hg.block k (by omega) (fun e' => by have := (hrow k e'.symm).1; omega), (Below.refl pb W).grown hg (by omega) (fun j hj => by have := (hrow j hj).1; omega)⟩
  refine (hg.block k (Array.getElem?_eq_some_iff.1 hk).1 (fun e' => ?_)).trans hk
  obtain ⟨_, c, fz, hc⟩ := hrow k e'.symm
  rw [hc] at hk
  cases hk
  cases ho
end Go.Proofs.YtajfgmlockjmhaiGreatDoor
namespace Go.Proofs.YtajfgmlockjmhaiGreatDoor
open Go.RowKit

theorem info3 {e : TypeId} {z : Value} {s b : Nat} (h : (Tryz.prog.info? e).map (fun i => (i.zero, i.size, i.bytes)) = some (some z, s, b)) : ∃ i, Tryz.prog.info? e = some i ∧ i.zero = some z ∧ i.size = s ∧ i.bytes = b := by
  cases hq : Tryz.prog.info? e with
  | none => rw [hq] at h; cases h
  | some i =>
    rw [hq] at h
    have := Option.some.inj h
    simp only [Prod.mk.injEq] at this
    exact ⟨i, rfl, this⟩
theorem own_base {w : World} {base base' : Nat} {e : TypeId} {size : Nat} {v : Value} {n : Nat} {xs : List Value} (h : w.ownsRow base e size v n xs) (hb : base' ≤ base) : w.ownsRow base' e size v n xs := by
  refine ⟨h.1, ?_⟩
  rcases h.2 with h2 | ⟨g, cap, cur, h1, h2, h3⟩
  · exact Or.inl h2
  · exact Or.inr ⟨g, cap, cur, h1, Nat.le_trans hb h2, h3⟩
end Go.Proofs.YtajfgmlockjmhaiGreatDoor
namespace Go.Proofs.YtajfgmlockjmhaiGreatDoor
open Go.RowKit

section
variable {P : Program} {ops : Array Oper} {st : Oper} {Q : Exit → Act → World → Prop}

/-- Behind a normal end the last operation; else as ever. -/
abbrev thenLast (P : Program) (st : Oper) (Q : Exit → Act → World → Prop) : Exit → Act → World → Prop := Exit.then (fun a w => st.wp P a w (Q .normal) Q) Q

theorem lets_out (h : LetsOut (thenLast P st Q)) : LetsOut Q := by
  obtain ⟨a, w, h⟩ := h
  exact ⟨a, w, h⟩
theorem oper_out {o : Oper} {a : Act} {w : World} {K : Act → World → Prop} (h : o.wp P a w K (thenLast P st Q)) : o.wp P a w K Q := by
  unfold Oper.wp at *
  generalize (execOp a.eval o).run P w = r at *
  cases r with
  | ok n w' =>
    cases n <;> simp only [Oper.upon] at h ⊢ <;> first
      | exact h
      | exact Calls.mono h (fun e w'' he => by cases e <;> first | exact he | exact lets_out he)
  | halt x w' => cases x <;> simp only [Oper.upon] at h ⊢ <;> exact h
/-- Guards none, edges backward, the last one waits for all, itself or by one that it waits for. -/
def WaitsAll (ops : Array Oper) (st : Oper) : Prop :=
  (∀ (i : Nat) o, ops[i]? = some o → o.guard = none ∧ ∀ e ∈ o.after, Region.binds .any e = true → e.on < i) ∧ st.guard = none ∧ (∀ j, j < ops.size → ∃ e ∈ st.after, Region.binds .any e = true ∧ (e.on = j ∨ ∃ o, ops[e.on]? = some o ∧ ∃ e' ∈ o.after, Region.binds .any e' = true ∧ e'.on = j)) ∧ ∀ e ∈ st.after, Region.binds .any e = true → e.on < ops.size
/-- What is listed waits for nothing. -/
def Shut (ops : Array Oper) (listed : Array Bool) : Prop := ∀ (i : Nat) o, listed.getD i false = true → ops[i]? = some o → ∀ e ∈ o.after, Region.binds .any e = true → listed.getD e.on false = true
theorem push_getD {listed : Array Bool} {n : Nat} (hn : listed.size = n) (d : Bool) {j : Nat} (hj : j < n) : (listed.push false).getD j d = listed.getD j d := by
  simp [Array.getElem?_push, show j ≠ listed.size by omega]
theorem push_last {listed : Array Bool} {n : Nat} (hn : listed.size = n) (d : Bool) : (listed.push false).getD n d = false := by
  subst hn
  simp
/-- None is ready: all are listed. -/
theorem all_listed (h : WaitsAll ops st) {listed : Array Bool} (hn : listed.size = ops.size) (hr : Region.ready .any ops listed = []) : ∀ j, j < ops.size → listed.getD j false = true := by
  intro j
  induction j using Nat.strongRecOn with
  | _ j ih =>
    intro hj
    cases hb : listed.getD j false with
    | true => rfl
    | false =>
      exfalso
      have hm : j ∈ Region.ready .any ops listed := by
        rw [mem_ready]
        refine ⟨?_, ops[j], Array.getElem?_eq_getElem hj, fun e he hbd => ?_⟩
        · simp only [Array.getD_eq_getD_getElem?, Array.getElem?_eq_getElem (show j < listed.size by omega), Option.getD_some] at hb ⊢
          exact hb
        · have hlt := (h.1 j _ (Array.getElem?_eq_getElem hj)).2 e he hbd
          exact ih e.on hlt (by omega)
      rw [hr] at hm
      cases hm
theorem ready_push (h : WaitsAll ops st) {listed : Array Bool} (hn : listed.size = ops.size) (hsh : Shut ops listed) {j : Nat} (hj : j ∈ Region.ready .any (ops.push st) (listed.push false)) : (j ∈ Region.ready .any ops listed) ∨ (j = ops.size ∧ ∀ i, i < ops.size → listed.getD i false = true) := by
  rw [mem_ready] at hj
  obtain ⟨h0, o, ho, hall⟩ := hj
  have hlt : j < (ops.push st).size := (Array.getElem?_eq_some_iff.1 ho).1
  rw [Array.size_push] at hlt
  by_cases hjn : j = ops.size
  · refine Or.inr ⟨hjn, fun i hi => ?_⟩
    subst hjn
    rw [Array.getElem?_push_size] at ho
    obtain rfl := Option.some.inj ho
    obtain ⟨e, he, hb, hon⟩ := h.2.2.1 i hi
    have := hall e he hb
    rw [push_getD hn _ (h.2.2.2 e he hb)] at this
    rcases hon with hon | ⟨o, ho, e', he', hb', hon⟩
    · rw [hon] at this
      exact this
    · have h2 := hsh e.on o this ho e' he' hb'
      rw [hon] at h2
      exact h2
  · have hj' : j < ops.size := by omega
    left
    rw [mem_ready]
    rw [Array.getElem?_push_lt hj'] at ho
    refine ⟨by rw [push_getD hn _ hj'] at h0; exact h0, o, by rw [Array.getElem?_eq_getElem hj']; exact ho, fun e he hb => ?_⟩
    have h1 := hall e he hb
    have h2 := (h.1 j o (by rw [Array.getElem?_eq_getElem hj']; exact ho)).2 e he hb
    rw [push_getD hn _ (show e.on < ops.size by omega)] at h1
    exact h1
theorem op_push (h : WaitsAll ops st) {i : Nat} (hi : i < ops.size) {K K' : Act → World → Prop} {a : Act} {w : World} (hk : ∀ a w, K a w → K' a w) (hw : wpOp P ops (thenLast P st Q) i K a w) : wpOp P (ops.push st) Q i K' a w := by
  unfold wpOp at *
  rw [Array.getElem?_push_lt hi]
  rw [Array.getElem?_eq_getElem hi] at hw
  have hg := (h.1 i _ (Array.getElem?_eq_getElem hi)).1
  simp only [Region.wanted, hg, if_true] at hw ⊢
  rcases hw with hw | ⟨h1, h2⟩
  · exact Or.inl (Oper.wp_mono hk (oper_out hw))
  · exact Or.inr ⟨h1, lets_out h2⟩
theorem last_push (h : WaitsAll ops st) {listed : Array Bool} (hn : listed.size = ops.size) (hl : ∀ i, i < ops.size → listed.getD i false = true) (fuel : Nat) {a : Act} {w : World} (hq : st.wp P a w (Q .normal) Q) : wpAny P .any (ops.push st) Q (fuel + 1) (listed.push false) a w := by
  have hme : ops.size ∈ Region.ready .any (ops.push st) (listed.push false) := by
    rw [mem_ready]
    refine ⟨push_last hn true, st, Array.getElem?_push_size, fun e he hb => ?_⟩
    have := h.2.2.2 e he hb
    rw [push_getD hn _ this]
    exact hl _ this
  refine ⟨fun h0 => (by rw [h0] at hme; cases hme), fun i hi => ?_⟩
  have hin : i = ops.size := by
    have hsh : Shut ops listed := fun i o _ ho e he hb => by
      have h1 := (Array.getElem?_eq_some_iff.1 ho).1
      have h2 := (h.1 i o ho).2 e he hb
      exact hl _ (by omega)
    rcases ready_push h hn hsh hi with h1 | ⟨h1, _⟩
    · rw [mem_ready] at h1
      obtain ⟨h2, o, ho, _⟩ := h1
      have hlt := (Array.getElem?_eq_some_iff.1 ho).1
      have := hl i hlt
      simp only [Array.getD_eq_getD_getElem?, Array.getElem?_eq_getElem (show i < listed.size by omega), Option.getD_some] at h2 this
      rw [h2] at this
      cases this
    · exact h1
  subst hin
  have hdone : ∀ a w, Q .normal a w → ∀ fuel, wpAny P .any (ops.push st) Q fuel ((listed.push false).setIfInBounds ops.size true) a w := fun a w hqn fuel => by
    refine wpAny_done ?_ hqn fuel
    rw [List.eq_nil_iff_forall_not_mem]
    intro j hj
    rw [mem_ready] at hj
    obtain ⟨h2, o, ho, _⟩ := hj
    have hlt := (Array.getElem?_eq_some_iff.1 ho).1
    rw [Array.size_push] at hlt
    by_cases hjn : j = ops.size
    · subst hjn
      simp [hn.symm] at h2
    · rw [getD_set_ne true (Ne.symm hjn), push_getD hn _ (by omega)] at h2
      have := hl j (by omega)
      simp only [Array.getD_eq_getD_getElem?, Array.getElem?_eq_getElem (show j < listed.size by omega), Option.getD_some] at h2 this
      rw [h2] at this
      cases this
  unfold wpOp
  rw [Array.getElem?_push_size]
  simp only [Region.wanted, h.2.1, if_true]
  exact Or.inl (Oper.wp_mono (fun a w hqn => hdone a w hqn fuel) hq)
theorem shut_step {listed : Array Bool} (hsh : Shut ops listed) {i : Nat} (hi : i ∈ Region.ready .any ops listed) : Shut ops (listed.setIfInBounds i true) := by
  have up : ∀ j, listed.getD j false = true → (listed.setIfInBounds i true).getD j false = true := fun j hj => by
    by_cases hji : i = j
    · subst hji
      have hlt : i < listed.size := by
        rcases Nat.lt_or_ge i listed.size with h | h
        · exact h
        · simp [Array.getElem?_eq_none h] at hj
      simp [hlt]
    · rw [getD_set_ne false hji]
      exact hj
  intro j o hj ho e he hb
  by_cases hji : i = j
  · subst hji
    rw [mem_ready] at hi
    obtain ⟨_, o', ho', hall⟩ := hi
    rw [ho] at ho'
    obtain rfl := Option.some.inj ho'
    exact up _ (hall e he hb)
  · rw [getD_set_ne false hji] at hj
    exact up _ (hsh j o hj ho e he hb)
theorem wpAny_push (h : WaitsAll ops st) : ∀ (fuel : Nat) (listed : Array Bool) (a : Act) (w : World), listed.size = ops.size → Shut ops listed → wpAny P .any ops (thenLast P st Q) fuel listed a w → wpAny P .any (ops.push st) Q (fuel + 1) (listed.push false) a w
  | 0, listed, a, w, hn, _, hw => last_push h hn (all_listed h hn hw.1) 0 hw.2
  | fuel + 1, listed, a, w, hn, hsh, hw => by
    by_cases hr : Region.ready .any ops listed = []
    · exact last_push h hn (all_listed h hn hr) _ (hw.1 hr)
    · have hnot : ¬ ∀ i, i < ops.size → listed.getD i false = true := fun hl => by
        obtain ⟨x, hx⟩ := List.exists_mem_of_ne_nil _ hr
        rw [mem_ready] at hx
        obtain ⟨h2, o, ho, _⟩ := hx
        have hlt := (Array.getElem?_eq_some_iff.1 ho).1
        have := hl x hlt
        simp only [Array.getD_eq_getD_getElem?, Array.getElem?_eq_getElem (show x < listed.size by omega), Option.getD_some] at h2 this
        rw [h2] at this
        cases this
      refine ⟨fun h0 => ?_, fun i hi => ?_⟩
      · exfalso
        obtain ⟨x, hx⟩ := List.exists_mem_of_ne_nil _ hr
        have hx' : x ∈ Region.ready .any (ops.push st) (listed.push false) := by
          rw [mem_ready] at hx ⊢
          obtain ⟨h2, o, ho, h3⟩ := hx
          have hlt := (Array.getElem?_eq_some_iff.1 ho).1
          refine ⟨by rw [push_getD hn _ hlt]; exact h2, o, by rw [Array.getElem?_push_lt hlt]; rw [Array.getElem?_eq_getElem hlt] at ho; exact ho, fun e he hb => ?_⟩
          have := (h.1 x o ho).2 e he hb
          rw [push_getD hn _ (show e.on < ops.size by omega)]
          exact h3 e he hb
        rw [h0] at hx'
        cases hx'
      · rcases ready_push h hn hsh hi with h1 | ⟨_, h1⟩
        · have hlt : i < ops.size := by
            rw [mem_ready] at h1
            obtain ⟨_, o, ho, _⟩ := h1
            exact (Array.getElem?_eq_some_iff.1 ho).1
          refine op_push h hlt (fun a' w' h2 => ?_) (hw.2 i h1)
          have h3 := wpAny_push h fuel (listed.setIfInBounds i true) a' w' (by simpa using hn) (shut_step hsh h1) h2
          have e : (listed.push false).setIfInBounds i true = (listed.setIfInBounds i true).push false := by
            apply Array.ext_getElem?
            intro j
            by_cases hji : i = j
            · subst hji
              rw [Array.getElem?_setIfInBounds_self, Array.getElem?_push_lt (by simpa using (show i < listed.size by omega))]
              simp [show i < listed.size + 1 by omega]
            · rw [Array.getElem?_setIfInBounds_ne hji, Array.getElem?_push, Array.getElem?_push, Array.size_setIfInBounds, Array.getElem?_setIfInBounds_ne hji]
          rw [e]
          exact h3
        · exact absurd h1 hnot
/-- The check, reckoned. -/
def waitsB (ops : Array Oper) (st : Oper) : Bool :=
  (List.range ops.size).all (fun i => match ops[i]? with | some o => o.guard.isNone && o.after.all (fun e => !Region.binds .any e || decide (e.on < i)) | none => true) && st.guard.isNone && (List.range ops.size).all (fun j => st.after.any (fun e => Region.binds .any e && (decide (e.on = j) || match ops[e.on]? with | some o => o.after.any (fun e' => Region.binds .any e' && decide (e'.on = j)) | none => false))) && st.after.all (fun e => !Region.binds .any e || decide (e.on < ops.size))
theorem waits_of (h : waitsB ops st = true) : WaitsAll ops st := by
  unfold waitsB at h
  simp only [Bool.and_eq_true, List.all_eq_true, List.mem_range, Array.all_eq_true_iff_forall_mem, Bool.or_eq_true, Bool.not_eq_true', decide_eq_true_eq] at h
  obtain ⟨⟨⟨h1, h2⟩, h3⟩, h4⟩ := h
  refine ⟨fun i o ho => ?_, by simpa using h2, fun j hj => ?_, fun e he hb => ?_⟩
  · have hi := (Array.getElem?_eq_some_iff.1 ho).1
    have := h1 i hi
    rw [ho] at this
    simp only [Bool.and_eq_true, Array.all_eq_true_iff_forall_mem, Bool.or_eq_true, Bool.not_eq_true', decide_eq_true_eq] at this
    refine ⟨by simpa using this.1, fun e he hb => ?_⟩
    rcases this.2 e he with h5 | h5
    · rw [hb] at h5; cases h5
    · exact h5
  · have := h3 j hj
    rw [Array.any_eq_true] at this
    obtain ⟨k, hk, hx⟩ := this
    simp only [Bool.and_eq_true, Bool.or_eq_true, decide_eq_true_eq] at hx
    refine ⟨_, Array.getElem_mem hk, hx.1, ?_⟩
    rcases hx.2 with h5 | h5
    · exact Or.inl h5
    · right
      cases ho : ops[(st.after[k]).on]? with
      | none => rw [ho] at h5; cases h5
      | some o =>
        rw [ho] at h5
        simp only [Array.any_eq_true, Bool.and_eq_true, decide_eq_true_eq] at h5
        obtain ⟨m, hm, h6, h7⟩ := h5
        exact ⟨o, rfl, _, Array.getElem_mem hm, h6, h7⟩
  · rcases h4 e he with h5 | h5
    · rw [hb] at h5; cases h5
    · exact h5
/-- A region that draws, whose last operation waits for all others. -/
theorem wp_region_last {id : Nat} {all : Array Oper} {a : Act} {w : World} (S : World → Prop) (hm : P.follows .mixedOrders = true) (ha : all = ops.push st) (hc : waitsB ops st = true)
    (h : wpAnyH P .any ops (thenLast P st Q) S ops.size (Array.replicate ops.size false) a w.drew) : (Code.region id all true).wp P Q a w := by
  subst ha
  refine wp_region_any hm ?_
  have := wpAny_push (waits_of hc) _ _ a _ (by simp) (fun i o hi => by exfalso; simp only [Array.getD_eq_getD_getElem?, Array.getElem?_replicate] at hi; split at hi <;> simp at hi) (wpAny_of_held _ _ _ _ h)
  rw [Array.size_push, Array.replicate_succ]
  exact this
/-- .. the region written out. -/
theorem wp_region_popped {P : Program} {Q : Exit → Act → World → Prop} {id : Nat} {all : Array Oper} {st : Oper} {a : Act} {w : World} (S : World → Prop) (hm : P.follows .mixedOrders = true) (ha : all = all.pop.push st) (hc : waitsB all.pop st = true) (hS : S w.drew)
    (h : S w.drew → wpAnyH P .any all.pop (thenLast P st Q) S all.pop.size (Array.replicate all.pop.size false) a w.drew) : (Code.region id all true).wp P Q a w := wp_region_last S hm ha hc (h hS)
end
end Go.Proofs.YtajfgmlockjmhaiGreatDoor
namespace Go.Proofs.YtajfgmlockjmhaiGreatDoor
open Go.RowKit

theorem wp_region_quiet_last {P : Program} {Q : Exit → Act → World → Prop} {id : Nat} {l : List Oper} {st : Oper} {a : Act} {w : World} (hm : P.follows .mixedOrders = true) (ha : l.toArray = l.dropLast.toArray.push st) (hc : waitsB l.dropLast.toArray st = true) (hB : Region.lexB .any l.dropLast.toArray = true)
    (h : wpQuiet P l.dropLast.toArray (fun w' => ∃ n, w' = w.drewN n) (fun a' => ∀ w', (∃ n, w' = w.drewN n) → st.wp P a' w' (Q .normal) Q) l.dropLast a) : (Code.region id l.toArray true).wp P Q a w := by
  rw [ha]
  refine wp_region_any hm ?_
  simp only [Region.lexB, Bool.and_eq_true] at hB
  have h1 := wpAnyQ_lex (P := P) (C := fun w' => ∃ n, w' = w.drewN n) (md := .any) hB.1 l.dropLast 0 (Array.replicate l.dropLast.toArray.size false) a (by simp) (by simpa using hB.2) h
  have h2 : wpAny P .any l.dropLast.toArray (thenLast P st Q) l.dropLast.length (Array.replicate l.dropLast.toArray.size false) a w.drew := wpAny_of_quiet (fun a' w' hw' h => h w' hw') _ _ _ _ ⟨1, rfl⟩ h1
  have h3 := wpAny_push (waits_of hc) _ _ a _ (by simp) (fun i o hi => by exfalso; simp only [Array.getD_eq_getD_getElem?, Array.getElem?_replicate] at hi; split at hi <;> simp at hi) h2
  rw [Array.size_push, Array.replicate_succ]
  simpa using h3
end Go.Proofs.YtajfgmlockjmhaiGreatDoor
namespace Go.Proofs.YtajfgmlockjmhaiGreatDoor
open Go.RowKit

/-- append onto a row that the call owns: the run, and where the new row lies. -/
theorem run_append_at {P : Program} (w : World) (t ty : TypeId) (base : Nat) (e : TypeId) (i : TypeInfo) (z : Value) (size bytes : Nat) (ht : P.underlying t = some (.slice e)) (hi : P.info? e = some i) (hz : i.zero = some z)
    (hsize : i.size = size) (hby : i.bytes = bytes) (hzs : z.cells.size = size) (hsz : 0 < size) (v : Value) (n : Nat) (xs : List Value) (hown : w.ownsRow base e size v n xs)
    (ad : Addr) (m c : Nat) (news : List Value) (hl : news.length = m * size) (hnews : ∀ j u, news[j]? = some u → w.cell? (ad.add j) = some u) (h1 : ∀ u ∈ news, u.oneCell' = true)
    (h63 : n + m ≤ maxLen) (hbytes : (n + m) * bytes ≤ 140737488355328) (hbase : base ≤ w.heap.size) :
    ∃ v' w', (Builtin.append_ #[t, t] ty #[v, .slice (some ad) m c]).run P w = .ok v' w' ∧ w'.ownsRow base e size v' (n + m) (xs ++ news) ∧ w.grownBy w' v.ownBlock ∧ (∀ k, v'.ownBlock = some k → v.ownBlock = some k ∨ w.heap.size ≤ k) := by
  obtain ⟨v', w', hr, h2, h3, h4⟩ := run_append_own (P := P) w base t ty e i z size bytes ht hi hz hsize hby hzs hsz v n xs hown ad m c news hl hnews h1 h63 hbytes hbase
  refine ⟨v', w', hr, h2, h3, ?_⟩
  have h63' : n + m ≤ 9223372036854775807 := by simpa [maxLen] using h63
  subst hsize
  subst hby
  intro k hk
  rcases hown.2 with ⟨rfl, rfl⟩ | ⟨g, cap, cur, rfl, hbg, hg, hnc, hcm, hcs, htake⟩
  · by_cases hm : m = 0
    · rw [h4.2 ⟨rfl, hm⟩] at hk
      cases hk
    · have hr2 := run_append_nil (P := P) w t ty e i z ht hi hz ad m c news hl hnews (by omega) (by omega) (by have hb := hbytes; simp only [Nat.zero_add] at hb; omega)
      rw [hr] at hr2
      injection hr2 with e1 e2
      subst e1
      simp only [Value.ownBlock, Option.some.injEq] at hk
      right
      omega
  · by_cases hroom : n + m ≤ cap
    · have hfit : n * i.size + news.length ≤ cur.size := by rw [hl, hcs, ← Nat.add_mul]; exact Nat.mul_le_mul_right _ hroom
      have hr2 := run_append_room (P := P) w t ty e i ht hi g n cap cur hg ad m c news hl hnews h1 hroom hfit
      rw [hr] at hr2
      injection hr2 with e1 e2
      subst e1
      left
      exact hk
    · have holds : ∀ j u, xs[j]? = some u → w.cell? ((⟨g, 0, none⟩ : Addr).add j) = some u := hown.cells (g := g) rfl
      have hr2 := run_append_grow (P := P) w t ty e i z ht hi hz ⟨g, 0, none⟩ n cap xs hown.1 holds ad m c news hl hnews (by omega) (by omega) (growslice_fits (by omega) hbytes)
      rw [hr] at hr2
      injection hr2 with e1 e2
      subst e1
      simp only [Value.ownBlock, Option.some.injEq] at hk
      right
      omega
/-- append, by its run, as one step of a region that draws. -/
theorem step_append_eq {P : Program} {ops : Array Oper} {o : Oper} {a : Act} {w : World} {K : Act → World → Prop} {Q : Exit → Act → World → Prop} {E : Prop}
    (hg : o.guard = none) (s x : Operand) (t : TypeId) (hop : o.op = Op.call { callee := Callee.builtin Builtin.append, args := #[s, x], argTypes := #[t, t] })
    (v1 v2 : Value) (hs : a.eval s = v1) (hx : a.eval x = v2) (v' : Value) (w' : World) (hr : (Builtin.append_ #[t, t] o.type #[v1, v2]).run P w = .ok v' w') (hK : K (a.put o.dst v') w') :
    if Region.wanted o (yielded ops a.tmps) = true then Oper.wp P o a w K Q else E := by
  have hw : Region.wanted o (yielded ops a.tmps) = true := by simp [Region.wanted, hg]
  rw [if_pos hw]
  unfold Oper.wp execOp
  simp only [hop, resolve, invoke, builtin, Sem.run_bind, Sem.run_pure, Result.andThen_ok, List.map_toArray, List.map_cons, List.map_nil, hs, hx, hr]
  exact hK
end Go.Proofs.YtajfgmlockjmhaiGreatDoor
namespace Go.Proofs.YtajfgmlockjmhaiGreatDoor
open Go Go.RowKit

theorem run_append_str_at {P : Program} (w : World) (t u ty : TypeId) (base : Nat) (e : TypeId) (i : TypeInfo) (ht : P.underlying t = some (.slice e)) (hu : P.underlying u = some .string) (hi : P.info? e = some i) (hz : i.zero = some (.int .u8 0))
    (hsize : i.size = 1) (hby : i.bytes = 1) (v : Value) (n : Nat) (xs : List Value) (hown : w.ownsRow base e 1 v n xs) (s : ByteArray) (hbytes : n + s.size ≤ 140737488355328) (hbase : base ≤ w.heap.size) :
    ∃ v' w', (Builtin.append_ #[t, u] ty #[v, .string s]).run P w = .ok v' w' ∧ w'.ownsRow base e 1 v' (n + s.size) (xs ++ Lib.strCells s) ∧ w.grownBy w' v.ownBlock ∧ (∀ k, v'.ownBlock = some k → v.ownBlock = some k ∨ w.heap.size ≤ k) := by
  obtain ⟨v', w', hr, h2, h3, h4⟩ := Lib.run_append_own_string (P := P) w base t u ty e i ht hu hi hz hsize hby v n xs hown s (by unfold maxLen; omega) hbytes hbase
  refine ⟨v', w', hr, h2, h3, ?_⟩
  intro k hk
  have hxl : xs.length = n := by simpa using hown.1
  rcases hown.2 with ⟨rfl, rfl⟩ | ⟨g, cap, cur, rfl, hbg, hg, hnc, hcm, hcs, htake⟩
  · by_cases hm : s.size = 0
    · rw [h4.2 ⟨rfl, hm⟩] at hk
      cases hk
    · have hr2 := run_append_nil_string (P := P) w t u ty e i (.int .u8 0) ht hu hi hz s (by omega) (by omega) (by rw [hby]; omega)
      rw [hr] at hr2
      injection hr2 with e1 e2
      subst e1
      simp only [Value.ownBlock, Option.some.injEq] at hk
      right
      omega
  · by_cases hroom : n + s.size ≤ cap
    · have hr2 := Lib.run_append_room_string (P := P) w t u ty e i ht hu hi hsize g n cap cur hg s hroom (by omega)
      rw [hr] at hr2
      injection hr2 with e1 e2
      subst e1
      left
      exact hk
    · have holds : ∀ j u, xs[j]? = some u → w.cell? ((⟨g, 0, none⟩ : Addr).add j) = some u := hown.cells (g := g) rfl
      have hr2 := Lib.run_append_grow_string (P := P) w t u ty e i (.int .u8 0) ht hu hi hz ⟨g, 0, none⟩ n cap xs (by rw [hsize]; simpa using hxl) holds s (by omega) (by omega) (by rw [hby]; exact growslice_fits (by omega) (by omega))
      rw [hr] at hr2
      injection hr2 with e1 e2
      subst e1
      simp only [Value.ownBlock, Option.some.injEq] at hk
      right
      omega
/-- .. at the operation. -/
theorem wpList_append_str_at {P : Program} (w : World) {ops : Array Oper} {rest : List Oper} {o : Oper} {a : Act} {Q : Exit → Act → World → Prop} (hgd : o.guard = none) (sl x : Operand) (t u : TypeId)
    (ho : o.op = .call { callee := .builtin .append, args := #[sl, x], argTypes := #[t, u] })
    (base : Nat) (e : TypeId) (i : TypeInfo) (ht : P.underlying t = some (.slice e)) (hu : P.underlying u = some .string) (hi : P.info? e = some i) (hz : i.zero = some (.int .u8 0))
    (hsize : i.size = 1) (hby : i.bytes = 1)
    (v : Value) (n : Nat) (xs : List Value) (hs : a.eval sl = v) (hown : w.ownsRow base e 1 v n xs) (s : ByteArray) (hx : a.eval x = .string s)
    (hbytes : n + s.size ≤ 140737488355328) (hbase : base ≤ w.heap.size)
    (h : ∀ v' w', w'.ownsRow base e 1 v' (n + s.size) (xs ++ Lib.strCells s) → w.grownBy w' v.ownBlock → (∀ k, v'.ownBlock = some k → v.ownBlock = some k ∨ w.heap.size ≤ k) → wpList P ops Q rest (a.put o.dst v') w') : wpList P ops Q (o :: rest) a w := by
  refine wpList_plain hgd fun K hK => ?_
  obtain ⟨v', w', hr, h2, h3, h4⟩ := run_append_str_at (P := P) w t u o.type base e i ht hu hi hz hsize hby v n xs hown s hbytes hbase
  unfold Oper.wp execOp
  simp only [ho, resolve, invoke, builtin, Sem.run_bind, Sem.run_pure, Result.andThen_ok, List.map_toArray, List.map_cons, List.map_nil, hs, hx, hr]
  exact hK _ _ (h v' w' h2 h3 h4)
/-- .. by its run, as one step of a region that draws. -/
theorem step_append_str_eq {P : Program} {ops : Array Oper} {o : Oper} {a : Act} {w : World} {K : Act → World → Prop} {Q : Exit → Act → World → Prop} {E : Prop}
    (hg : o.guard = none) (s x : Operand) (t u : TypeId) (hop : o.op = Op.call { callee := Callee.builtin Builtin.append, args := #[s, x], argTypes := #[t, u] })
    (v1 v2 : Value) (hs : a.eval s = v1) (hx : a.eval x = v2) (v' : Value) (w' : World) (hr : (Builtin.append_ #[t, u] o.type #[v1, v2]).run P w = .ok v' w') (hK : K (a.put o.dst v') w') :
    if Region.wanted o (yielded ops a.tmps) = true then Oper.wp P o a w K Q else E := by
  have hw : Region.wanted o (yielded ops a.tmps) = true := by simp [Region.wanted, hg]
  rw [if_pos hw]
  unfold Oper.wp execOp
  simp only [hop, resolve, invoke, builtin, Sem.run_bind, Sem.run_pure, Result.andThen_ok, List.map_toArray, List.map_cons, List.map_nil, hs, hx, hr]
  exact hK
theorem byte_str (l : List UInt8) : Lib.strCells ⟨l.toArray⟩ = Lib.byteCells l := by simp [Lib.strCells, Lib.byteCells]
theorem byte_app (l m : List UInt8) : Lib.byteCells l ++ Lib.byteCells m = Lib.byteCells (l ++ m) := by simp [Lib.byteCells]
end Go.Proofs.YtajfgmlockjmhaiGreatDoor
namespace Go.Proofs.YtajfgmlockjmhaiGreatDoor

/-- A span: From, To, Room. -/
abbrev S3 := Int × Int × Int
def spOk (n : Int) (s : S3) : Bool := decide (0 ≤ s.1 ∧ s.1 < s.2.1 ∧ s.2.1 ≤ n ∧ 0 ≤ s.2.2 ∧ s.2.2 < 5)
/-- Two share a tick. -/
def clashB (s o : S3) : Bool := decide (o.1 < s.2.1 ∧ s.1 < o.2.1)
/-- What is wrong with the span at a place. -/
def badOf (n : Int) (l : List S3) (s : S3) : Int := if spOk n s = true then (if l.any (clashB s) = true then 7 else 0) else 1
def badAt (n : Int) (l : List S3) (i : Nat) : Int := match l[i]? with
  | none => 0
  | some s => badOf n (l.take i) s
def scan (p : Nat → Int) : Nat → Nat → Int × Int
  | 0, _ => (0, 0)
  | m + 1, i => if p i = 0 then scan p m (i + 1) else ((i : Int), p i)
/-- Which span is wrong, and how. -/
def fchk (n : Int) (l : List S3) : Int × Int := if n < 1 ∨ 40 < n then (0, 1) else if 12 < l.length then (0, 4) else scan (badAt n l) l.length 0

theorem badAt_some {n : Int} {l : List S3} {i : Nat} {s : S3} (h : l[i]? = some s) : badAt n l i = badOf n (l.take i) s := by unfold badAt; rw [h]
theorem scan_zero {p : Nat → Int} : ∀ {m i : Nat}, (∀ j, i ≤ j → j < i + m → p j = 0) → scan p m i = (0, 0)
  | 0, _, _ => rfl
  | m + 1, i, h => by
    unfold scan
    rw [if_pos (h i (Nat.le_refl _) (by omega))]
    exact scan_zero fun j h1 h2 => h j (by omega) (by omega)
theorem scan_all {p : Nat → Int} : ∀ {m i : Nat}, (scan p m i).2 = 0 → ∀ j, i ≤ j → j < i + m → p j = 0
  | 0, _, _, j, h1, h2 => by omega
  | m + 1, i, h, j, h1, h2 => by
    unfold scan at h
    split at h
    · rename_i h0
      by_cases hj : j = i
      · subst hj; exact h0
      · exact scan_all h j (by omega) (by omega)
    · rename_i h0
      exact absurd h h0
theorem scan_step {p : Nat → Int} {m i : Nat} {x : Int × Int} (hi : i < m) (h : scan p m 0 = scan p (m - i) i) (h0 : p i = 0) (e : scan p m 0 = x) : scan p (m - (i + 1)) (i + 1) = x := by
  rw [← e, h, show m - i = (m - (i + 1)) + 1 by omega]
  conv => rhs; unfold scan
  rw [if_pos h0]
theorem scan_next {p : Nat → Int} {m i : Nat} (hi : i < m) (h : scan p m 0 = scan p (m - i) i) (h0 : p i = 0) : scan p m 0 = scan p (m - (i + 1)) (i + 1) :=
  (scan_step hi h h0 rfl).symm
theorem scan_hit {p : Nat → Int} {m i : Nat} (hi : i < m) (h : scan p m 0 = scan p (m - i) i) (h0 : p i ≠ 0) : scan p m 0 = ((i : Int), p i) := by
  rw [h, show m - i = (m - (i + 1)) + 1 by omega]
  unfold scan
  rw [if_neg h0]
theorem scan_end {p : Nat → Int} {m : Nat} (h : scan p m 0 = scan p (m - m) m) : scan p m 0 = (0, 0) := by
  rw [h, Nat.sub_self]
  rfl
theorem scan_fst {p : Nat → Int} : ∀ {m i : Nat}, (scan p m i).2 = 0 → scan p m i = (0, 0) := fun h => scan_zero (scan_all h)

theorem fchk_lo {n : Int} {l : List S3} (h : n < 1 ∨ 40 < n) : fchk n l = (0, 1) := by unfold fchk; rw [if_pos h]
theorem fchk_long {n : Int} {l : List S3} (h : ¬ (n < 1 ∨ 40 < n)) (hl : 12 < l.length) : fchk n l = (0, 4) := by unfold fchk; rw [if_neg h, if_pos hl]
theorem fchk_mid {n : Int} {l : List S3} (h : ¬ (n < 1 ∨ 40 < n)) (hl : ¬ 12 < l.length) : fchk n l = scan (badAt n l) l.length 0 := by unfold fchk; rw [if_neg h, if_neg hl]
theorem fchk_zero {n : Int} {l : List S3} (h : (fchk n l).2 = 0) : 1 ≤ n ∧ n ≤ 40 ∧ l.length ≤ 12 ∧ (∀ s ∈ l, spOk n s = true) ∧ fchk n l = (0, 0) := by
  by_cases h1 : n < 1 ∨ 40 < n
  · rw [fchk_lo h1] at h; simp at h
  by_cases h2 : 12 < l.length
  · rw [fchk_long h1 h2] at h; simp at h
  rw [fchk_mid h1 h2] at h ⊢
  refine ⟨by omega, by omega, by omega, fun s hs => ?_, scan_fst h⟩
  obtain ⟨i, hi, rfl⟩ := List.getElem_of_mem hs
  have := scan_all h i (Nat.zero_le _) (by omega)
  rw [badAt_some (List.getElem?_eq_getElem hi)] at this
  unfold badOf at this
  split at this
  · assumption
  · simp at this

/-- A span has a tick. -/
def hits (t : Int) (s : S3) : Bool := decide (s.1 ≤ t ∧ t < s.2.1)
/-- Who has a tick of one frame; -1: none. -/
def hold : List S3 → Int → Int
  | [], _ => -1
  | s :: l, t => if hits t s = true then s.2.2 else hold l t
/-- At which place a span lies that has the tick; -1: none. -/
def hidx (l : List S3) (t : Int) : Int := match l.findIdx? (hits t) with | some i => i | none => -1
theorem hold_some : ∀ {l : List S3} {t : Int} {i : Nat} {s : S3}, l.findIdx? (hits t) = some i → l[i]? = some s → hold l t = s.2.2
  | [], _, _, _, h, _ => by simp at h
  | x :: l, t, i, s, h, hs => by
    rw [List.findIdx?_cons] at h
    unfold hold
    split at h
    · rename_i hx
      simp at h
      subst h
      simp at hs
      subst hs
      rw [if_pos hx]
    · rename_i hx
      rw [if_neg (by simpa using hx)]
      simp only [Option.map_eq_some_iff] at h
      obtain ⟨k, hk, rfl⟩ := h
      exact hold_some hk (by simpa using hs)
theorem hold_none : ∀ {l : List S3} {t : Int}, l.findIdx? (hits t) = none → hold l t = -1
  | [], _, _ => rfl
  | x :: l, t, h => by
    rw [List.findIdx?_eq_none_iff] at h
    unfold hold
    rw [if_neg (by simp [h x (by simp)])]
    exact hold_none (by rw [List.findIdx?_eq_none_iff]; intro y hy; exact h y (by simp [hy]))
theorem hold_range {n : Int} : ∀ {l : List S3} {t : Int}, (∀ s ∈ l, spOk n s = true) → -1 ≤ hold l t ∧ hold l t < 5
  | [], _, _ => by simp [hold]
  | x :: l, t, h => by
    unfold hold
    split
    · have := h x (by simp)
      simp only [spOk, decide_eq_true_eq] at this
      omega
    · exact hold_range (fun s hs => h s (by simp [hs]))
/-- The widest way so far, and the last tick that was had. -/
def gf (p : Nat → Bool) : Nat → Int × Int
  | 0 => (0, -1)
  | t + 1 => if p t = true then (if 0 ≤ (gf p t).2 then max (gf p t).1 ((t : Int) - (gf p t).2) else (gf p t).1, (t : Int)) else gf p t
/-- A tick that is had, and the next one. -/
def Pair (p : Nat → Bool) (i k : Nat) : Prop := p i = true ∧ p k = true ∧ i < k ∧ ∀ j, i < j → j < k → p j = false
/-- Again and again. -/
def Per (p : Nat → Bool) (n : Nat) : Prop := ∀ t, p (t + n) = p t
theorem Pair.le {p : Nat → Bool} {n i k : Nat} (hn : 0 < n) (h : Per p n) (hp : Pair p i k) : k ≤ i + n := by
  rcases Nat.lt_or_ge (i + n) k with h1 | h1
  · have := hp.2.2.2 (i + n) (by omega) h1
    rw [h, hp.1] at this; cases this
  · exact h1
theorem Pair.back {p : Nat → Bool} {n i k : Nat} (h : Per p n) (hp : Pair p (i + n) (k + n)) : Pair p i k :=
  ⟨by rw [← h]; exact hp.1, by rw [← h]; exact hp.2.1, by have := hp.2.2.1; omega, fun j h1 h2 => by
    rw [← h]
    exact hp.2.2.2 (j + n) (by omega) (by omega)⟩
theorem Pair.low {p : Nat → Bool} {n : Nat} (hn : 0 < n) (h : Per p n) : ∀ (i k : Nat), Pair p i k → ∃ i' k', Pair p i' k' ∧ i' < n ∧ (k' : Int) - i' = (k : Int) - i := fun i => by
  induction i using Nat.strongRecOn with
  | ind i ih =>
    intro k hp
    by_cases hi : i < n
    · exact ⟨i, k, hp, hi, rfl⟩
    · have hk := hp.2.2.1
      have hp' : Pair p (i - n) (k - n) := by
        apply Pair.back h
        rw [show i - n + n = i by omega, show k - n + n = k by omega]
        exact hp
      obtain ⟨i', k', h1, h2, h3⟩ := ih (i - n) (by omega) (k - n) hp'
      exact ⟨i', k', h1, h2, by omega⟩
/-- What the loop over one frame holds. -/
def Wide (p : Nat → Bool) (t : Nat) (m : Int) : Prop := (∀ i k, Pair p i k → i < t → (k : Int) - i ≤ m) ∧ (m = 0 ∨ ∃ i k, Pair p i k ∧ i < t ∧ m = (k : Int) - i)
theorem Wide.zero (p : Nat → Bool) : Wide p 0 0 := ⟨fun i k _ h => by omega, Or.inl rfl⟩
theorem Pair.same {p : Nat → Bool} {i k k' : Nat} (h : Pair p i k) (h' : Pair p i k') : k = k' := by
  rcases Nat.lt_trichotomy k k' with h1 | h1 | h1
  · have := h'.2.2.2 k h.2.2.1 h1; rw [h.2.1] at this; cases this
  · exact h1
  · have := h.2.2.2 k' h'.2.2.1 h1; rw [h'.2.1] at this; cases this
theorem Wide.more {p : Nat → Bool} {t k : Nat} {m : Int} (h : Wide p t m) (hp : Pair p t k) (hg : m < (k : Int) - t) : Wide p (t + 1) ((k : Int) - t) := by
  refine ⟨fun i k' hk hi => ?_, Or.inr ⟨t, k, hp, by omega, rfl⟩⟩
  by_cases hit : i = t
  · subst hit
    rw [hp.same hk]
    exact Int.le_refl _
  · have := h.1 i k' hk (by omega)
    omega
theorem Wide.less {p : Nat → Bool} {t k : Nat} {m : Int} (h : Wide p t m) (hp : Pair p t k) (hg : ¬ m < (k : Int) - t) : Wide p (t + 1) m := by
  refine ⟨fun i k' hk hi => ?_, ?_⟩
  · by_cases hit : i = t
    · subst hit
      rw [← hp.same hk]
      omega
    · exact h.1 i k' hk (by omega)
  · rcases h.2 with h0 | ⟨i, k, hk, hi, he⟩
    · exact Or.inl h0
    · exact Or.inr ⟨i, k, hk, by omega, he⟩
/-- Whether a room has a tick, of any frame. -/
def had (l : List S3) (n : Nat) (r : Int) (t : Nat) : Bool := decide (hold l ((t % n : Nat) : Int) = r)
theorem badOf_range {n : Int} {l : List S3} {s : S3} (h : spOk n s = false) : badOf n l s = 1 := by unfold badOf; rw [if_neg (by simp [h])]
theorem badOf_clash {n : Int} {l : List S3} {s : S3} (h : spOk n s = true) (hc : l.any (clashB s) = true) : badOf n l s = 7 := by unfold badOf; rw [if_pos h, if_pos hc]
theorem badOf_none {n : Int} {l : List S3} {s : S3} (h : spOk n s = true) (hc : l.any (clashB s) = false) : badOf n l s = 0 := by unfold badOf; rw [if_pos h, if_neg (by simp [hc])]
end Go.Proofs.YtajfgmlockjmhaiGreatDoor
namespace Go.Proofs.YtajfgmlockjmhaiGreatDoor
open Go Go.RowKit

/-- What abides the iterator's own steps: new blocks, draws, writes to block Bi alone. -/
def Free {β : Type} (Bi : Nat) (J : β → World → Prop) : Prop := ∀ s W W', J s W → W.grownBy W' (some Bi) → J s W'
/-- What abides these, and the turns of the loop's own blocks, which are no cells and lie from B on. -/
def Steady {β : Type} (B Bi : Nat) (I : β → World → Prop) : Prop :=
  ∀ s W W' row, I s W → W.grownBy W' row → (∀ r, row = some r → r = Bi ∨ (B ≤ r ∧ ∃ o : Obj, W.heap[r]? = some o ∧ o.isCells = false)) → I s W'
theorem Steady.own {β : Type} {B Bi : Nat} {I : β → World → Prop} (h : Steady B Bi I) : OwnFrom B I := fun s W W' row hs hg hr => h s W W' row hs hg (fun r e => Or.inr (hr r e))
theorem Steady.free {β : Type} {B Bi : Nat} {I : β → World → Prop} (h : Steady B Bi I) : Free Bi I := fun s W W' hs hg => h s W W' (some Bi) hs hg (fun r e => Or.inl (by cases e; rfl))
theorem Steady.and {β : Type} {B Bi : Nat} {I I' : β → World → Prop} (h : Steady B Bi I) (h' : Steady B Bi I') : Steady B Bi (fun s W => I s W ∧ I' s W) := fun s W W' row hs hg hr => ⟨h s W W' row hs.1 hg hr, h' s W W' row hs.2 hg hr⟩
theorem steady_pure {β : Type} (B Bi : Nat) (p : β → Prop) : Steady B Bi (fun s (_ : World) => p s) := fun _ _ _ _ hs _ _ => hs
theorem steady_below {β : Type} {B Bi n₀ : Nat} {w₀ : World} (hB : n₀ ≤ B) (hi : n₀ ≤ Bi) : Steady B Bi (fun (_ : β) W => Below n₀ w₀ W ∧ n₀ ≤ W.heap.size) := fun _ W W' row hs hg hr =>
  ⟨hs.1.grown hg hs.2 (fun r e => by rcases hr r e with h | h; omega; exact Nat.le_trans hB h.1), Nat.le_trans hs.2 hg.size⟩

/-- How the body of a round may be left: it goes on, or it returns. -/
def statePost {α : Type} (B Bi m : Nat) (I Ix : List α → World → Prop) (xs : List α) (W : World) : Exit → Act → World → Prop
  | .normal, _, W' => KeepsFrom B W W' ∧ (∀ k, Bi ≤ k → k < Bi + m → W'.heap[k]? = W.heap[k]?) ∧ I xs W'
  | .ret, _, W' => KeepsFrom B W W' ∧ Ix xs W'
  | _, _, _ => False

/-- An iterator that gives xs, its state in block Bi; it reads the m blocks from Bi on. -/
def Gives {α : Type} (F : Fence) (n : Nat) (P : Program) (g : Nat) (lb : Array Value) (enc : α → Value) (Bi m : Nat) (S Sp : List α → Prop) (N : Nat) (w : World) : Prop :=
  ∀ (l : Nat) (J Jx : List α → World → Prop) (W : World), Below w.heap.size w W → Free Bi J → Free Bi Jx →
    (∀ pre x W1, J pre W1 → pre.length < N → YieldAt F (n - 1) P l #[enc x] W1 fun e W' =>
      (e = .returned (.bool true) ∧ J (pre ++ [x]) W' ∧ ∀ k, Bi ≤ k → k < Bi + m → W'.heap[k]? = W1.heap[k]?) ∨ (e = .returned (.bool false) ∧ Jx (pre ++ [x]) W')) →
    J [] W → CallsIn F n P g (#[.func (.yield l) #[] #[]] ++ lb) W fun e W' => (∃ v, e = .returned v) ∧ ((∃ xs, S xs ∧ J xs W') ∨ (∃ pre, Sp pre ∧ Jx pre W'))

variable {F : Fence} {n : Nat} {P : Program}

theorem wpIn_rangeState {α : Type} {g : Operand} {p : Tmp} (q : Tmp) {assign body : Code} {Q : Exit → Act → World → Prop} {a : Act} {w : World}
    (hro : F.round = none) (h1 : 1 ≤ n) {gf : Nat} {lb : Array Value} (hg : a.eval g = .func (.func gf) #[] lb) (hFg : F.fn gf) (eg : ∀ args w, (callFunc gf args).run P w = .ok (.enter gf args) w)
    {enc : α → Value} {Bi m : Nat} {S Sp : List α → Prop} {N : Nat} (hseq : Gives F (n - 1) P gf lb enc Bi m S Sp N w) (hBi : Bi + m ≤ w.heap.size) (hm : 1 ≤ m)
    (I Ix : List α → World → Prop) (hI : Steady w.heap.size Bi I) (hIx : Steady w.heap.size Bi Ix) (h0 : I [] w)
    (hassign : ∀ (l : Nat) (x : α) (W : World) (K : Act → World → Prop), K { tmps := (a.tmps.setIfInBounds p (enc x)).setIfInBounds q (enc x), defers := [] } W → assign.wpIn (F.inRound l) (n - 1 - 1) P (Exit.then K (fun _ _ _ => False)) { tmps := ((#[p] : Array Tmp).zip #[enc x]).foldl (fun t (p, v) => t.setIfInBounds p v) a.tmps, defers := [] } W)
    (hbody : ∀ (l : Nat) (pre : List α) (x : α) (W : World), I pre W → pre.length < N → body.wpIn (F.inRound l) (n - 1 - 1) P (statePost w.heap.size Bi m I Ix (pre ++ [x]) W) { tmps := (a.tmps.setIfInBounds p (enc x)).setIfInBounds q (enc x), defers := [] } W)
    (hdone : ∀ (D : Nat) (xs : List α) (W : World), w.heap.size ≤ D → S xs → I xs W → W.heap[D]? = some (.deferred (some [])) → Q .normal { a with defers := { target := .collected D, args := #[] } :: a.defers } W)
    (hstop : ∀ (D : Nat) (pre : List α) (W : World), w.heap.size ≤ D → Sp pre → Ix pre W → W.heap[D]? = some (.deferred (some [])) → Code.ret.wpIn F n P Q { a with defers := { target := .collected D, args := #[] } :: a.defers } W) :
    (Code.rangeFunc g #[p] assign body).wpIn F n P Q a w := by
  refine wpIn_rangeFunc fun fn hfn => ?_
  rw [hro]
  obtain ⟨rec, hrec⟩ : ∃ rec : LoopState → Option Code → Loop, rec = fun st pe => { state := st, pending := pe, fn, tmps := a.tmps, params := #[p], assign, body, defers := w.heap.size } := ⟨_, rfl⟩
  obtain ⟨W1, hW1⟩ : ∃ W1, (w.alloc (.deferred (some []))).alloc (.loop (rec .ready none)) = W1 := ⟨_, rfl⟩
  have hL1 : W1.heap[w.heap.size + 1]? = some (.loop (rec .ready none)) := by
    rw [← hW1]; have := World.alloc_heap_new (w.alloc (.deferred (some []))) (.loop (rec .ready none)); rwa [World.size_alloc] at this
  have hK1 : W1.heap[w.heap.size]? = some (.deferred (some [])) := by
    rw [← hW1]; exact (Below.heap_alloc _ _ _ (by simp)).trans (World.alloc_heap_new w _)
  have hI1 : I [] W1 := by rw [← hW1]; exact hI.own.alloc _ (hI.own.alloc _ h0)
  have hb1 : Below w.heap.size w W1 := by rw [← hW1]; exact ((Below.refl _ w).alloc (Nat.le_refl _) _).alloc (by simp) _
  refine ⟨w.heap.size + 1, [{ target := .collected w.heap.size, args := #[] }], W1, { target := .fn (.func gf) lb, args := #[.func (.yield (w.heap.size + 1)) #[] #[]] }, W1, gf,
    #[.func (.yield (w.heap.size + 1)) #[] #[]] ++ lb, W1, ?_, ?_, ?_, ?_, fun _ => h1, ?_⟩
  · rw [← hW1, hrec]; exact run_enterLoop_outer _ _ _ _ _
  · simp only [resolve, hg]
    simp [go_sem]
  · intro f' hf'; simp [Target.leads] at hf'; subst hf'; exact hFg
  · simp [invoke, go_sem, eg]
  · have blk : ∀ {A B : World} (j : Nat) {o : Obj}, w.heap.size ≤ j → A.grownBy B (some Bi) → A.heap[j]? = some o → B.heap[j]? = some o := fun j _ hj hg' h =>
      (hg'.block j (Array.getElem?_eq_some_iff.1 h).1 (fun e => by simp at e; omega)).trans h
    refine (hseq (w.heap.size + 1)
      (fun pre W => I pre W ∧ W.heap[w.heap.size + 1]? = some (.loop (rec .ready none)) ∧ W.heap[w.heap.size]? = some (.deferred (some [])))
      (fun pre W => Ix pre W ∧ W.heap[w.heap.size + 1]? = some (.loop (rec .done (some .ret))) ∧ W.heap[w.heap.size]? = some (.deferred (some [])))
      W1 hb1
      (fun s A B hs hg' => ⟨hI.free s A B hs.1 hg', blk _ (by omega) hg' hs.2.1, blk _ (Nat.le_refl _) hg' hs.2.2⟩)
      (fun s A B hs hg' => ⟨hIx.free s A B hs.1 hg', blk _ (by omega) hg' hs.2.1, blk _ (Nat.le_refl _) hg' hs.2.2⟩)
      ?_ ⟨hI1, hL1, hK1⟩).mono ?_
    · rintro pre x W ⟨hi, hl, hk⟩ hlen
      have hlt : w.heap.size + 1 < W.heap.size := (Array.getElem?_eq_some_iff.1 hl).1
      have hy := run_yield (P := P) (args := #[enc x]) hl (by rw [hrec]; rfl)
      rw [hrec] at hy
      refine ⟨fn, _, assign, body, hy, roundIn_of_wpIn hfn (hassign _ x W _ ?_)⟩
      clear hy
      refine ⟨_, run_beginRound hl (by rw [hrec]), ?_⟩
      have hl2 : (W.putObj (w.heap.size + 1) (.loop { rec .ready none with state := .busy })).heap[w.heap.size + 1]? = some (.loop { rec .ready none with state := .busy }) := World.putObj_heap_same hlt
      have hk2 : (W.putObj (w.heap.size + 1) (.loop { rec .ready none with state := .busy })).heap[w.heap.size]? = some (.deferred (some [])) := (World.putObj_heap_other (by omega)).trans hk
      refine wpIn_mono (hbody _ pre x _ (hI.own.putObj _ hi (by omega) hl rfl) hlen) ?_
      have fin : ∀ (jump : Option Code) (W3 : World), KeepsFrom w.heap.size (W.putObj (w.heap.size + 1) (.loop { rec .ready none with state := .busy })) W3 →
          (Instr.endRound (w.heap.size + 1) jump).run P W3 = .ok (.bool jump.isNone) (W3.putObj (w.heap.size + 1) (.loop (rec (if jump.isNone then .ready else .done) jump))) ∧
          W3.heap[w.heap.size + 1]? = some (.loop { rec .ready none with state := .busy }) ∧
          (W3.putObj (w.heap.size + 1) (.loop (rec (if jump.isNone then .ready else .done) jump))).heap[w.heap.size + 1]? = some (.loop (rec (if jump.isNone then .ready else .done) jump)) ∧
          (W3.putObj (w.heap.size + 1) (.loop (rec (if jump.isNone then .ready else .done) jump))).heap[w.heap.size]? = some (.deferred (some [])) := fun jump W3 hk3 => by
        have hl3 := hk3.same _ _ (by omega) hl2 rfl
        have := run_endRound (P := P) jump hl3
        rw [hrec] at this ⊢
        exact ⟨this, by rw [hrec] at hl3; exact hl3, World.putObj_heap_same (Array.getElem?_eq_some_iff.1 hl3).1, (World.putObj_heap_other (by omega)).trans (hk3.same _ _ (Nat.le_refl _) hk2 rfl)⟩
      rintro e a3 W3 hp
      cases e with
      | normal =>
        obtain ⟨hk3, hs3, hi3⟩ := hp
        obtain ⟨hr, hl3, hl4, hk4⟩ := fin none W3 hk3
        exact ⟨_, _, hr, .inl ⟨rfl, ⟨hI.own.putObj _ hi3 (by omega) hl3 rfl, hl4, hk4⟩, fun k hk0 hk1 => (World.putObj_heap_other (by omega)).trans ((hs3 k hk0 hk1).trans (World.putObj_heap_other (by omega)))⟩⟩
      | ret =>
        obtain ⟨hk3, hi3⟩ := hp
        obtain ⟨hr, hl3, hl4, hk4⟩ := fin (some .ret) W3 hk3
        exact ⟨_, _, hr, .inr ⟨rfl, hIx.own.putObj _ hi3 (by omega) hl3 rfl, hl4, hk4⟩⟩
      | exit id => exact hp.elim
      | goto t => exact hp.elim
      | panic ch => exact hp.elim
      | outgrown => exact hp.elim
    · rintro e W2 ⟨⟨v, rfl⟩, (⟨xs, hS, hi, hl, hk⟩ | ⟨pre, hSp, hi, hl, hk⟩)⟩
      · exact ⟨none, _, by have := run_endLoop (P := P) hl (by rw [hrec]; simp); rw [hrec] at this; exact this, hdone _ xs _ (Nat.le_refl _) hS (hI.own.putObj _ hi (by omega) hl rfl) ((World.putObj_heap_other (by omega)).trans hk)⟩
      · exact ⟨some .ret, _, by have := run_endLoop (P := P) hl (by rw [hrec]; simp); rw [hrec] at this; exact this, hstop _ pre _ (Nat.le_refl _) hSp (hIx.own.putObj _ hi (by omega) hl rfl) ((World.putObj_heap_other (by omega)).trans hk)⟩

theorem keepsFrom_below {B : Nat} {W W' : World} (hb : Below W.heap.size W W') : KeepsFrom B W W' := ⟨hb.size, fun k _ _ hk _ => (hb.block k (Array.getElem?_eq_some_iff.1 hk).1).trans hk⟩
theorem steady_boxed {β : Type} {B Bi : Nat} (b : Nat) (t : TypeId) (f : β → Value) (hne : b ≠ Bi) : Steady B Bi (fun s W => Boxed W b t (f s)) := fun s W W' row hs hg hr =>
  hs.kept hg (fun e => by
    rcases hr b e.symm with h | ⟨_, _, ho, hc⟩
    · exact hne h
    · rw [show W.heap[b]? = _ from hs] at ho; cases ho; cases hc)
theorem own_steady {W W' : World} {row : Option Nat} {B Bi base : Nat} {e : TypeId} {size : Nat} {v : Value} {n : Nat} {xs : List Value} (h : W.ownsRow base e size v n xs) (hg : W.grownBy W' row)
    (hr : ∀ r, row = some r → r = Bi ∨ (B ≤ r ∧ ∃ o : Obj, W.heap[r]? = some o ∧ o.isCells = false)) (hb : Bi < base) : W'.ownsRow base e size v n xs := by
  rcases hrow : row with _ | r
  · exact h.kept hg (by rw [hrow]; cases v.ownBlock <;> simp)
  · refine h.kept hg (Or.inr fun e' => ?_)
    rw [hrow] at e'
    rcases hr r hrow with hB | ⟨_, _, ho, hc⟩
    · have := (h.lt r e').1
      omega
    · rcases h.2 with ⟨hv, _⟩ | ⟨g, cap, cur, hv, _, hgc, _⟩
      · rw [hv] at e'; cases e'
      · rw [hv] at e'
        simp only [Value.ownBlock, Option.some.injEq] at e'
        rw [e'] at hgc
        rw [hgc] at ho
        cases ho; cases hc

/-- A round that calls, then appends to a slice of its own, which lies in a box C ahead of the rows: what it leaves. -/
theorem app_step {W W2 w1 : World} {C base size : Nat} {t e : TypeId} {tmp : Obj} {vv v' : Value} {n m : Nat} {xs ys : List Value} (b2 : Below W.heap.size W W2) (hC : C < base) (hb : base ≤ W.heap.size) (hbv : Boxed W2 C t vv) (hte : t ≠ e)
    (hown2 : W2.ownsRow base e size vv n xs) (hown' : w1.ownsRow base e size v' m ys) (hgrow : (W2.alloc tmp).grownBy w1 vv.ownBlock) :
    KeepsOthers W (w1.setCell ⟨C, 0, none⟩ v') ∧ (∀ k, k < base → k ≠ C → (w1.setCell ⟨C, 0, none⟩ v').heap[k]? = W.heap[k]?) ∧ Boxed (w1.setCell ⟨C, 0, none⟩ v') C t v' ∧ (w1.setCell ⟨C, 0, none⟩ v').ownsRow base e size v' m ys ∧
      Below C W (w1.setCell ⟨C, 0, none⟩ v') ∧ W.heap.size ≤ (w1.setCell ⟨C, 0, none⟩ v').heap.size := by
  have hrow : ∀ j, vv.ownBlock = some j → base ≤ j ∧ ∃ c fz, W2.heap[j]? = some (.cells c e fz) := fun j hj => by
    refine ⟨(hown2.lt j hj).1, ?_⟩
    rcases hown2.2 with ⟨hv, _⟩ | ⟨g, cap, cur, hv, _, hgc, _⟩
    · rw [hv] at hj; cases hj
    · rw [hv] at hj
      simp only [Value.ownBlock, Option.some.injEq] at hj
      exact ⟨_, _, by rw [← hj]; exact hgc⟩
  have hv1 : Boxed w1 C t vv := (hbv.alloc tmp).kept hgrow (hbv.not_row hte hown2)
  have hsz : W.heap.size ≤ w1.heap.size := by have := hgrow.size; have := b2.size; simp at *; omega
  have hsz' : (w1.setCell ⟨C, 0, none⟩ v').heap.size = w1.heap.size := by simp [World.setCell]
  have blk : ∀ k, k < base → k ≠ C → (w1.setCell ⟨C, 0, none⟩ v').heap[k]? = W.heap[k]? := fun k hk hne => by
    rw [Below.heap_setCell _ _ _ _ hne, hgrow.block k (by have := b2.size; simp; omega) (fun e' => by have := (hrow k e'.symm).1; omega), Below.heap_alloc _ _ _ (by have := b2.size; omega), b2.block k (by omega)]
  refine ⟨⟨by rw [hsz']; exact hsz, fun k o hk ho => ?_⟩, blk, hv1.set v', hown'.kept (grownBy_setCell' w1 C v') (Or.inr ((hv1.not_row hte hown').symm)), ?_, by rw [hsz']; exact hsz⟩
  · have h2 : W2.heap[k]? = some o := (b2.block k (Array.getElem?_eq_some_iff.1 hk).1).trans hk
    have hlt := (Array.getElem?_eq_some_iff.1 h2).1
    have hCk : k ≠ C := fun e' => by
      subst e'
      rw [show W2.heap[k]? = _ from hbv] at h2
      cases h2; cases ho
    rw [Below.heap_setCell _ _ _ _ hCk, hgrow.block k (by simp; omega) (fun e' => by
      obtain ⟨_, c, fz, hc⟩ := hrow k e'.symm
      rw [hc] at h2; cases h2; cases ho), Below.heap_alloc _ _ _ hlt, h2]
  · have hg : Below C W2 w1 := ((Below.refl C W2).alloc (by have := b2.size; omega) tmp).grown hgrow (by have := b2.size; simp; omega) (fun j ej => by have := (hrow j ej).1; omega)
    exact ((b2.mono (by omega)).trans hg).setCell (p := ⟨C, 0, none⟩) (Nat.le_refl _) v'
end Go.Proofs.YtajfgmlockjmhaiGreatDoor
namespace Go.Proofs.YtajfgmlockjmhaiGreatDoor
open Go Go.RowKit

/-- What abides the iterator's own steps, and the turns of the loop's own two blocks. -/
def SteadyD {β : Type} (B Bi : Nat) (I : β → World → Prop) : Prop := ∀ s W W' row, I s W → W.grownBy W' row → (∀ r, row = some r → r = Bi ∨ r = B ∨ r = B + 1) → I s W'
theorem SteadyD.free {β : Type} {B Bi : Nat} {I : β → World → Prop} (h : SteadyD B Bi I) : Free Bi I := fun s W W' hs hg => h s W W' (some Bi) hs hg (fun r e => Or.inl (by cases e; rfl))
theorem SteadyD.alloc {β : Type} {B Bi : Nat} {I : β → World → Prop} (h : SteadyD B Bi I) {s : β} {W : World} (o : Obj) (hs : I s W) : I s (W.alloc o) := h s W _ none hs (World.grownBy_alloc W o none) (fun r e => by cases e)
theorem SteadyD.put {β : Type} {B Bi : Nat} {I : β → World → Prop} (h : SteadyD B Bi I) {s : β} {W : World} {l : Nat} (hl : l = B ∨ l = B + 1) (o : Obj) (hs : I s W) : I s (W.putObj l o) := h s W _ (some l) hs (grownBy_putObj' W l o) (fun r e => by cases e; exact Or.inr hl)
/-- How the body of a round may be left: it goes on, or it returns. -/
def heldPost {α : Type} (B Bi m : Nat) (I Ix : List α → World → Prop) (xs : List α) (W : World) : Exit → Act → World → Prop
  | .normal, _, W' => (∀ k, k = B ∨ k = B + 1 ∨ (Bi ≤ k ∧ k < Bi + m) → W'.heap[k]? = W.heap[k]?) ∧ I xs W'
  | .ret, _, W' => (∀ k, k = B ∨ k = B + 1 ∨ (Bi ≤ k ∧ k < Bi + m) → W'.heap[k]? = W.heap[k]?) ∧ Ix xs W'
  | _, _, _ => False

variable {F : Fence} {n : Nat} {P : Program}

theorem wpIn_rangeHeld {α : Type} {g : Operand} {p : Tmp} (q : Tmp) {assign body : Code} {Q : Exit → Act → World → Prop} {a : Act} {w : World}
    (hro : F.round = none) (h1 : 1 ≤ n) {gf : Nat} {lb : Array Value} (hg : a.eval g = .func (.func gf) #[] lb) (hFg : F.fn gf) (eg : ∀ args w, (callFunc gf args).run P w = .ok (.enter gf args) w)
    {enc : α → Value} {Bi m : Nat} {S Sp : List α → Prop} {N : Nat} (hseq : Gives F (n - 1) P gf lb enc Bi m S Sp N w) (hBi : Bi + m ≤ w.heap.size) (hm : 1 ≤ m)
    (I Ix : List α → World → Prop) (hI : SteadyD w.heap.size Bi I) (hIx : SteadyD w.heap.size Bi Ix) (h0 : I [] w)
    (hassign : ∀ (l : Nat) (x : α) (W : World) (K : Act → World → Prop), K { tmps := (a.tmps.setIfInBounds p (enc x)).setIfInBounds q (enc x), defers := [] } W → assign.wpIn (F.inRound l) (n - 1 - 1) P (Exit.then K (fun _ _ _ => False)) { tmps := ((#[p] : Array Tmp).zip #[enc x]).foldl (fun t (p, v) => t.setIfInBounds p v) a.tmps, defers := [] } W)
    (hbody : ∀ (l : Nat) (pre : List α) (x : α) (W : World), I pre W → pre.length < N → w.heap.size + 2 ≤ W.heap.size → body.wpIn (F.inRound l) (n - 1 - 1) P (heldPost w.heap.size Bi m I Ix (pre ++ [x]) W) { tmps := (a.tmps.setIfInBounds p (enc x)).setIfInBounds q (enc x), defers := [] } W)
    (hdone : ∀ (D : Nat) (xs : List α) (W : World), D = w.heap.size → S xs → I xs W → W.heap[D]? = some (.deferred (some [])) → Q .normal { a with defers := { target := .collected D, args := #[] } :: a.defers } W)
    (hstop : ∀ (D : Nat) (pre : List α) (W : World), D = w.heap.size → Sp pre → Ix pre W → W.heap[D]? = some (.deferred (some [])) → Code.ret.wpIn F n P Q { a with defers := { target := .collected D, args := #[] } :: a.defers } W) :
    (Code.rangeFunc g #[p] assign body).wpIn F n P Q a w := by
  refine wpIn_rangeFunc fun fn hfn => ?_
  rw [hro]
  obtain ⟨rec, hrec⟩ : ∃ rec : LoopState → Option Code → Loop, rec = fun st pe => { state := st, pending := pe, fn, tmps := a.tmps, params := #[p], assign, body, defers := w.heap.size } := ⟨_, rfl⟩
  obtain ⟨W1, hW1⟩ : ∃ W1, (w.alloc (.deferred (some []))).alloc (.loop (rec .ready none)) = W1 := ⟨_, rfl⟩
  have hL1 : W1.heap[w.heap.size + 1]? = some (.loop (rec .ready none)) := by
    rw [← hW1]; have := World.alloc_heap_new (w.alloc (.deferred (some []))) (.loop (rec .ready none)); rwa [World.size_alloc] at this
  have hK1 : W1.heap[w.heap.size]? = some (.deferred (some [])) := by
    rw [← hW1]; exact (Below.heap_alloc _ _ _ (by simp)).trans (World.alloc_heap_new w _)
  have hI1 : I [] W1 := by rw [← hW1]; exact hI.alloc _ (hI.alloc _ h0)
  have hb1 : Below w.heap.size w W1 := by rw [← hW1]; exact ((Below.refl _ w).alloc (Nat.le_refl _) _).alloc (by simp) _
  refine ⟨w.heap.size + 1, [{ target := .collected w.heap.size, args := #[] }], W1, { target := .fn (.func gf) lb, args := #[.func (.yield (w.heap.size + 1)) #[] #[]] }, W1, gf,
    #[.func (.yield (w.heap.size + 1)) #[] #[]] ++ lb, W1, ?_, ?_, ?_, ?_, fun _ => h1, ?_⟩
  · rw [← hW1, hrec]; exact run_enterLoop_outer _ _ _ _ _
  · simp only [resolve, hg]
    simp [go_sem]
  · intro f' hf'; simp [Target.leads] at hf'; subst hf'; exact hFg
  · simp [invoke, go_sem, eg]
  · have blk : ∀ {A B : World} (j : Nat) {o : Obj}, w.heap.size ≤ j → A.grownBy B (some Bi) → A.heap[j]? = some o → B.heap[j]? = some o := fun j _ hj hg' h =>
      (hg'.block j (Array.getElem?_eq_some_iff.1 h).1 (fun e => by simp at e; omega)).trans h
    refine (hseq (w.heap.size + 1)
      (fun pre W => I pre W ∧ W.heap[w.heap.size + 1]? = some (.loop (rec .ready none)) ∧ W.heap[w.heap.size]? = some (.deferred (some [])))
      (fun pre W => Ix pre W ∧ W.heap[w.heap.size + 1]? = some (.loop (rec .done (some .ret))) ∧ W.heap[w.heap.size]? = some (.deferred (some [])))
      W1 hb1
      (fun s A B hs hg' => ⟨hI.free s A B hs.1 hg', blk _ (by omega) hg' hs.2.1, blk _ (Nat.le_refl _) hg' hs.2.2⟩)
      (fun s A B hs hg' => ⟨hIx.free s A B hs.1 hg', blk _ (by omega) hg' hs.2.1, blk _ (Nat.le_refl _) hg' hs.2.2⟩)
      ?_ ⟨hI1, hL1, hK1⟩).mono ?_
    · rintro pre x W ⟨hi, hl, hk⟩ hlen
      have hlt : w.heap.size + 1 < W.heap.size := (Array.getElem?_eq_some_iff.1 hl).1
      have hy := run_yield (P := P) (args := #[enc x]) hl (by rw [hrec]; rfl)
      rw [hrec] at hy
      refine ⟨fn, _, assign, body, hy, roundIn_of_wpIn hfn (hassign _ x W _ ?_)⟩
      clear hy
      refine ⟨_, run_beginRound hl (by rw [hrec]), ?_⟩
      have hl2 : (W.putObj (w.heap.size + 1) (.loop { rec .ready none with state := .busy })).heap[w.heap.size + 1]? = some (.loop { rec .ready none with state := .busy }) := World.putObj_heap_same hlt
      have hk2 : (W.putObj (w.heap.size + 1) (.loop { rec .ready none with state := .busy })).heap[w.heap.size]? = some (.deferred (some [])) := (World.putObj_heap_other (by omega)).trans hk
      refine wpIn_mono (hbody _ pre x _ (hI.put (by omega) _ hi) hlen (by rw [World.putObj_size]; omega)) ?_
      have fin : ∀ (jump : Option Code) (W3 : World), (∀ k, k = w.heap.size ∨ k = w.heap.size + 1 ∨ (Bi ≤ k ∧ k < Bi + m) → W3.heap[k]? = (W.putObj (w.heap.size + 1) (.loop { rec .ready none with state := .busy })).heap[k]?) →
          (Instr.endRound (w.heap.size + 1) jump).run P W3 = .ok (.bool jump.isNone) (W3.putObj (w.heap.size + 1) (.loop (rec (if jump.isNone then .ready else .done) jump))) ∧
          W3.heap[w.heap.size + 1]? = some (.loop { rec .ready none with state := .busy }) ∧
          (W3.putObj (w.heap.size + 1) (.loop (rec (if jump.isNone then .ready else .done) jump))).heap[w.heap.size + 1]? = some (.loop (rec (if jump.isNone then .ready else .done) jump)) ∧
          (W3.putObj (w.heap.size + 1) (.loop (rec (if jump.isNone then .ready else .done) jump))).heap[w.heap.size]? = some (.deferred (some [])) := fun jump W3 hk3 => by
        have hl3 := (hk3 _ (Or.inr (Or.inl rfl))).trans hl2
        have := run_endRound (P := P) jump hl3
        rw [hrec] at this ⊢
        exact ⟨this, by rw [hrec] at hl3; exact hl3, World.putObj_heap_same (Array.getElem?_eq_some_iff.1 hl3).1, (World.putObj_heap_other (by omega)).trans ((hk3 _ (Or.inl rfl)).trans hk2)⟩
      rintro e a3 W3 hp
      cases e with
      | normal =>
        obtain ⟨hs3, hi3⟩ := hp
        obtain ⟨hr, hl3, hl4, hk4⟩ := fin none W3 hs3
        exact ⟨_, _, hr, .inl ⟨rfl, ⟨hI.put (by omega) _ hi3, hl4, hk4⟩, fun k hk0 hk1 => (World.putObj_heap_other (by omega)).trans ((hs3 k (Or.inr (Or.inr ⟨hk0, hk1⟩))).trans (World.putObj_heap_other (by omega)))⟩⟩
      | ret =>
        obtain ⟨hk3, hi3⟩ := hp
        obtain ⟨hr, hl3, hl4, hk4⟩ := fin (some .ret) W3 hk3
        exact ⟨_, _, hr, .inr ⟨rfl, hIx.put (by omega) _ hi3, hl4, hk4⟩⟩
      | exit id => exact hp.elim
      | goto t => exact hp.elim
      | panic ch => exact hp.elim
      | outgrown => exact hp.elim
    · rintro e W2 ⟨⟨v, rfl⟩, (⟨xs, hS, hi, hl, hk⟩ | ⟨pre, hSp, hi, hl, hk⟩)⟩
      · exact ⟨none, _, by have := run_endLoop (P := P) hl (by rw [hrec]; simp); rw [hrec] at this; exact this, hdone _ xs _ rfl hS (hI.put (by omega) _ hi) ((World.putObj_heap_other (by omega)).trans hk)⟩
      · exact ⟨some .ret, _, by have := run_endLoop (P := P) hl (by rw [hrec]; simp); rw [hrec] at this; exact this, hstop _ pre _ rfl hSp (hIx.put (by omega) _ hi) ((World.putObj_heap_other (by omega)).trans hk)⟩

end Go.Proofs.YtajfgmlockjmhaiGreatDoor
namespace Go.Proofs.YtajfgmlockjmhaiGreatDoor

theorem idx_cases (c : UInt8) : ∀ l : List UInt8, (c ∉ l ∧ Lib.indexByte l c = -1) ∨ ∃ u v, l = u ++ c :: v ∧ c ∉ u ∧ Lib.indexByte l c = (u.length : Int)
  | [] => Or.inl ⟨by simp, rfl⟩
  | b :: l => by
    by_cases h : b = c
    · exact Or.inr ⟨[], l, by simp [h], by simp, by simp [Lib.indexByte, h]⟩
    · have hb : (b == c) = false := by simpa using h
      rcases idx_cases c l with ⟨h1, h2⟩ | ⟨u, v, h1, h2, h3⟩
      · exact Or.inl ⟨by simp [h1, Ne.symm h], by simp [Lib.indexByte, hb, h2]⟩
      · refine Or.inr ⟨b :: u, v, by simp [h1], by simp [h2, Ne.symm h], ?_⟩
        have h4 : (Lib.indexByte l c == -1) = false := by rw [h3]; simp
        rw [Lib.indexByte, hb, h4, h3]
        simp

/-- The lines that are left, 'cur' the one begun. -/
def linesGo : List UInt8 → List UInt8 → List (List UInt8)
  | cur, [] => if cur = [] then [] else [cur]
  | cur, x :: xs => if x = 10 then (cur ++ [10]) :: linesGo [] xs else linesGo (cur ++ [x]) xs
def linesB (l : List UInt8) : List (List UInt8) := linesGo [] l
theorem linesGo_app : ∀ (u cur m : List UInt8), (10 : UInt8) ∉ u → linesGo cur (u ++ m) = linesGo (cur ++ u) m
  | [], cur, m, _ => by simp
  | x :: xs, cur, m, h => by
    have hx : x ≠ 10 := fun e => h (by simp [e])
    have hxs : (10 : UInt8) ∉ xs := fun e => h (by simp [e])
    rw [List.cons_append, linesGo, if_neg hx, linesGo_app xs _ m hxs]; simp
theorem lines_at {u : List UInt8} (v : List UInt8) (h : (10 : UInt8) ∉ u) : linesB (u ++ 10 :: v) = (u ++ [10]) :: linesB v := by
  unfold linesB
  rw [linesGo_app u [] _ h, linesGo, if_pos rfl]; rfl
theorem lines_end {u : List UInt8} (h : (10 : UInt8) ∉ u) (hne : u ≠ []) : linesB u = [u] := by
  have := linesGo_app u [] [] h
  unfold linesB
  rw [List.append_nil] at this
  rw [this, List.nil_append, linesGo, if_neg hne]
theorem lines_nil : linesB [] = [] := rfl
end Go.Proofs.YtajfgmlockjmhaiGreatDoor
namespace Go.Proofs.YtajfgmlockjmhaiGreatDoor
open Go.RowKit

theorem ltc {w : World} {b o : Nat} {v : Value} (h : w.cell? ⟨b, o, none⟩ = some v) : b < w.heap.size := by
  rcases Nat.lt_or_ge b w.heap.size with h' | h'
  · exact h'
  · simp [World.cell?, Array.getElem?_eq_none h'] at h
theorem retB {a b : Bool} (h : a = b) : Ending.returned (.bool a) = .returned (.bool b) := by rw [h]
theorem retI {k : IntKind} {a b : Int} (h : a = b) : Ending.returned (.int k a) = .returned (.int k b) := by rw [h]
/-- An error as a value. -/
def fErr (e : Int) : Value := if e = 0 then .nilIface else .iface 93 (.int .i64 e)
theorem fErr_not {e : Int} (h : e ≠ 0) : fErr e = .iface 93 (.int .i64 e) := by simp [fErr, h]
/-- The cells of spans. -/
def SpC (w : World) (b off : Nat) (l : List S3) : Prop := ∀ (i : Nat) o, l[i]? = some o → w.cell? ⟨b, off + i * 3, none⟩ = some (.int .i64 o.1) ∧ w.cell? ⟨b, off + i * 3 + 1, none⟩ = some (.int .i64 o.2.1) ∧ w.cell? ⟨b, off + i * 3 + 2, none⟩ = some (.int .i64 o.2.2)
/-- Spans that can be read in the world. -/
def Sps (w : World) (v : Value) (l : List S3) : Prop :=
  (l = [] ∧ ∃ ao cap, v = .slice ao 0 cap) ∨ ∃ b off cap, v = .slice (some ⟨b, off, none⟩) l.length cap ∧ l.length ≤ cap ∧ b < w.heap.size ∧ SpC w b off l
theorem SpC.below {w w' : World} {b off B : Nat} {l : List S3} (h : SpC w b off l) (hb : Below B w w') (hlt : b < B) : SpC w' b off l := fun i o ho => by
  obtain ⟨h0, h1, h2⟩ := h i o ho
  exact ⟨(hb.cell (p := ⟨b, _, none⟩) hlt).trans h0, (hb.cell (p := ⟨b, _, none⟩) hlt).trans h1, (hb.cell (p := ⟨b, _, none⟩) hlt).trans h2⟩
theorem SpC.take {w : World} {b off : Nat} {l : List S3} (h : SpC w b off l) (k : Nat) : SpC w b off (l.take k) := fun i o ho => by
  rw [List.getElem?_take] at ho
  split at ho
  · exact h i o ho
  · cases ho
theorem Sps.all {w w' : World} {v : Value} {l : List S3} (h : Sps w v l) (hb : Below w.heap.size w w') : Sps w' v l := by
  rcases h with h | ⟨b, off, cap, rfl, hcap, hlt, hc⟩
  · exact Or.inl h
  · exact Or.inr ⟨b, off, cap, rfl, hcap, Nat.lt_of_lt_of_le hlt hb.size, hc.below hb hlt⟩
theorem Sps.form {w : World} {v : Value} {l : List S3} (h : Sps w v l) : ∃ ao cap, v = .slice ao l.length cap := by
  rcases h with ⟨rfl, ao, cap, rfl⟩ | ⟨b, off, cap, rfl, _⟩
  · exact ⟨ao, cap, rfl⟩
  · exact ⟨_, cap, rfl⟩
theorem fidx_hit {α : Type} {p : α → Bool} : ∀ {l : List α} {k : Nat} {o : α}, (∀ i x, i < k → l[i]? = some x → p x = false) → l[k]? = some o → p o = true → l.findIdx? p = some k
  | [], k, o, _, h, _ => by simp at h
  | x :: l, 0, o, _, h, hp => by simp at h; subst h; simp [List.findIdx?_cons, hp]
  | x :: l, k + 1, o, h0, h, hp => by
    have hx : p x = false := h0 0 x (by omega) rfl
    have := fidx_hit (l := l) (k := k) (o := o) (fun i y hi hy => h0 (i + 1) y (by omega) (by simpa using hy)) (by simpa using h) hp
    simp [List.findIdx?_cons, hx, this]
theorem fidx_miss {α : Type} {p : α → Bool} {l : List α} (h : ∀ (i : Nat) x, i < l.length → l[i]? = some x → p x = false) : l.findIdx? p = none := by
  rw [List.findIdx?_eq_none_iff]
  intro x hx
  obtain ⟨i, hi, rfl⟩ := List.getElem_of_mem hx
  exact h i _ hi (by simp [hi])

set_option maxRecDepth 100000 in
set_option maxHeartbeats 1000000 in
theorem isRoom_any (r : Int) (w : World) : Calls Tryz.prog 134 #[.int .i64 r] w fun e w' => e = .returned (.bool (decide (0 ≤ r) && decide (r < 5))) ∧ Below w.heap.size w w' := by
  by_cases h : 0 ≤ r
  · by_cases h2 : r < 5
    · go_enter Tryz.func134, Tryz.ntmps134
      go_wp2
      go_ret
      exact ⟨retB (by simp <;> omega), Below.refl _ _⟩
    · have h2' : decide (r < 5) = false := by simpa using h2
      go_enter Tryz.func134, Tryz.ntmps134
      go_wp2
      go_ret
      exact ⟨retB (by simp <;> omega), Below.refl _ _⟩
  · have h' : decide (0 ≤ r) = false := by simpa using h
    go_enter Tryz.func134, Tryz.ntmps134
    go_wp2
    go_ret
    exact ⟨retB (by simp <;> omega), Below.refl _ _⟩

set_option maxRecDepth 100000 in
set_option maxHeartbeats 1000000 in
theorem ffits_any (s : S3) (n : Int) (w : World) : Calls Tryz.prog 92 #[.agg #[.int .i64 s.1, .int .i64 s.2.1, .int .i64 s.2.2], .int .i64 n] w fun e w' => e = .returned (.bool (spOk n s)) ∧ Below w.heap.size w w' := by
  obtain ⟨a, b, r⟩ := s
  simp only
  have hr := fun W => isRoom_any r W
  by_cases h1 : 0 ≤ a
  · by_cases h2 : a < b
    · by_cases h3 : b ≤ n
      · have HF : Hid (spOk n (a, b, r) = (decide (0 ≤ r) && decide (r < 5))) := by show _ = _; simp [spOk, h1, h2, h3]
        go_enter Tryz.func92, Tryz.ntmps92
        go_wp2_with (go_at_call 134; refine (hr _).mono ?_; rintro e w1 ⟨rfl, b1⟩; clear hr)
        go_ret
        exact ⟨retB HF.out.symm, ((Below.refl _ _).alloc (Nat.le_refl _) _).trans (b1.mono (by simp))⟩
      · have h3' : decide (b ≤ n) = false := by simpa using h3
        have HF : Hid (spOk n (a, b, r) = false) := by show _ = _; simp [spOk, h3]
        clear hr
        go_enter Tryz.func92, Tryz.ntmps92
        go_wp2
        go_ret
        exact ⟨retB HF.out.symm, (Below.refl _ _).alloc (Nat.le_refl _) _⟩
    · have h2' : decide (a < b) = false := by simpa using h2
      have HF : Hid (spOk n (a, b, r) = false) := by show _ = _; simp [spOk, h2]
      clear hr
      go_enter Tryz.func92, Tryz.ntmps92
      go_wp2
      go_ret
      exact ⟨retB HF.out.symm, (Below.refl _ _).alloc (Nat.le_refl _) _⟩
  · have h1' : decide (0 ≤ a) = false := by simpa using h1
    have HF : Hid (spOk n (a, b, r) = false) := by show _ = _; simp [spOk, h1]
    clear hr
    go_enter Tryz.func92, Tryz.ntmps92
    go_wp2
    go_ret
    exact ⟨retB HF.out.symm, (Below.refl _ _).alloc (Nat.le_refl _) _⟩
end Go.Proofs.YtajfgmlockjmhaiGreatDoor
namespace Go.Proofs.YtajfgmlockjmhaiGreatDoor
open Go.RowKit

/-- The cells of spans, one behind the other. -/
def spCells (l : List S3) : List Value := l.flatMap fun o => [.int .i64 o.1, .int .i64 o.2.1, .int .i64 o.2.2]
theorem spCells_at : ∀ (l : List S3) (i : Nat) (o : S3), l[i]? = some o → (spCells l)[i * 3]? = some (.int .i64 o.1) ∧ (spCells l)[i * 3 + 1]? = some (.int .i64 o.2.1) ∧ (spCells l)[i * 3 + 2]? = some (.int .i64 o.2.2)
  | [], i, o, h => by simp at h
  | x :: l, 0, o, h => by
    simp at h
    subst h
    simp [spCells]
  | x :: l, i + 1, o, h => by
    have := spCells_at l i o (by simpa using h)
    have e : spCells (x :: l) = [.int .i64 x.1, .int .i64 x.2.1, .int .i64 x.2.2] ++ spCells l := by simp [spCells]
    rw [e]
    refine ⟨?_, ?_, ?_⟩
    · rw [List.getElem?_append_right (by simp; omega)]
      simpa [show (i + 1) * 3 - 3 = i * 3 by omega] using this.1
    · rw [List.getElem?_append_right (by simp; omega)]
      simpa [show (i + 1) * 3 + 1 - 3 = i * 3 + 1 by omega] using this.2.1
    · rw [List.getElem?_append_right (by simp; omega)]
      simpa [show (i + 1) * 3 + 2 - 3 = i * 3 + 2 by omega] using this.2.2
theorem sps_of_own {w : World} {base : Nat} {v : Value} {l : List S3} (h : w.ownsRow base 82 3 v l.length (spCells l)) : Sps w v l := by
  have hl := h.lt
  have hcs := @World.ownsRow.cells _ _ _ _ _ _ _ h
  rcases h.2 with ⟨rfl, h0⟩ | ⟨g, cap, cur, rfl, _, _, hcap, _⟩
  · exact Or.inl ⟨List.eq_nil_of_length_eq_zero h0, _, _, rfl⟩
  · have hat : ∀ j u, (spCells l)[j]? = some u → w.cell? ⟨g, j, none⟩ = some u := fun j u hu => by
      have := hcs rfl j u hu
      unfold Addr.add at this
      split at this
      · rename_i h0; subst h0; exact this
      · simpa using this
    refine Or.inr ⟨g, 0, cap, rfl, hcap, (hl g rfl).2, fun i o ho => ?_⟩
    obtain ⟨h1, h2, h3⟩ := spCells_at l i o ho
    exact ⟨by simpa using hat _ _ h1, by simpa using hat _ _ h2, by simpa using hat _ _ h3⟩
theorem own_apart {w : World} {b1 b2 : Nat} {e1 e2 : TypeId} {s1 s2 : Nat} {v1 v2 : Value} {n1 n2 : Nat} {x1 x2 : List Value} (he : e1 ≠ e2) (h1 : w.ownsRow b1 e1 s1 v1 n1 x1) (h2 : w.ownsRow b2 e2 s2 v2 n2 x2) : v1.ownBlock = none ∨ v1.ownBlock ≠ v2.ownBlock := by
  rcases h1.2 with ⟨rfl, _⟩ | ⟨g1, c1, u1, rfl, _, hb1, _⟩
  · exact Or.inl rfl
  · rcases h2.2 with ⟨rfl, _⟩ | ⟨g2, c2, u2, rfl, _, hb2, _⟩
    · exact Or.inr (by simp [Value.ownBlock])
    · refine Or.inr fun e => ?_
      simp only [Value.ownBlock, Option.some.injEq] at e
      subst e
      rw [hb1] at hb2
      simp only [Option.some.injEq, Obj.cells.injEq] at hb2
      exact he hb2.2.1
theorem own_succ {W : World} {base : Nat} {e : TypeId} {size : Nat} {v : Value} {k : Nat} {xs : List Value} (h : W.ownsRow base e size v (k + 1) xs) : ∃ g cap, v = .slice (some ⟨g, 0, none⟩) (k + 1) cap := by
  rcases h.2 with ⟨_, h0⟩ | ⟨g, cap, cur, h1, _⟩
  · omega
  · exact ⟨g, cap, h1⟩
theorem own_form {w : World} {base : Nat} {e : TypeId} {size : Nat} {v : Value} {n : Nat} {xs : List Value} (R : w.ownsRow base e size v n xs) : ∃ g n' cap, v = .slice g n' cap := by
  rcases R.2 with ⟨h, _⟩ | ⟨g, cap, cur, h, _⟩
  · exact ⟨_, _, _, h⟩
  · exact ⟨_, _, _, h⟩
theorem infoOps : (Tryz.prog.info? 29).map (fun i => (i.zero, i.size, i.bytes)) = some (some (.slice none 0 0), 1, 24) := by kernel_rfl
theorem infoSp : (Tryz.prog.info? 82).map (fun i => (i.zero, i.size, i.bytes)) = some (some (.agg #[.int .i64 0, .int .i64 0, .int .i64 0]), 3, 24) := by kernel_rfl
end Go.Proofs.YtajfgmlockjmhaiGreatDoor
namespace Go.Proofs.YtajfgmlockjmhaiGreatDoor
open Go.RowKit

theorem sl_form {w : World} {base : Nat} {e : TypeId} {size : Nat} {v : Value} {n : Nat} {xs : List Value} (h : w.ownsRow base e size v n xs) : ∃ ao cap, v = .slice ao n cap := by
  rcases h.2 with ⟨h1, h2⟩ | ⟨g, cap, cur, h1, _⟩
  · exact ⟨_, _, by rw [h1, h2]⟩
  · exact ⟨_, _, h1⟩
def RdV (w : World) (v : Value) (vs : List Value) : Prop := (vs = [] ∧ ∃ ao cap, v = .slice ao 0 cap) ∨ ∃ g off cap, v = .slice (some ⟨g, off, none⟩) vs.length cap ∧ g < w.heap.size ∧ ∀ (i : Nat) x, vs[i]? = some x → w.cell? ⟨g, off + i, none⟩ = some x
theorem RdV.form {w : World} {v : Value} {vs : List Value} (h : RdV w v vs) : ∃ ao cap, v = .slice ao vs.length cap := by
  rcases h with ⟨rfl, ao, cap, rfl⟩ | ⟨g, off, cap, rfl, _⟩
  · exact ⟨_, _, rfl⟩
  · exact ⟨_, _, rfl⟩
theorem RdV.all {w w' : World} {v : Value} {vs : List Value} (h : RdV w v vs) (hb : Below w.heap.size w w') : RdV w' v vs := by
  rcases h with h | ⟨g, off, cap, rfl, h2, h3⟩
  · exact Or.inl h
  · exact Or.inr ⟨g, off, cap, rfl, by have := hb.size; omega, fun i x hx => (hb.cell (p := ⟨g, off + i, none⟩) h2).trans (h3 i x hx)⟩
theorem append_rdv {t e : TypeId} {z : Value} {bytes : Nat} (ht : Tryz.prog.underlying t = some (.slice e)) (hI : (Tryz.prog.info? e).map (fun i => (i.zero, i.size, i.bytes)) = some (some z, 1, bytes)) (hzc : z.cells.size = 1) (hby : bytes ≤ 16) {w : World} {base : Nat} {v u : Value} {n : Nat} {xs ys : List Value} (hown : w.ownsRow base e 1 v n xs) (hu : RdV w u ys) (h1 : ∀ y ∈ ys, y.oneCell' = true) (hn : n + ys.length ≤ 1000000) (hb : base ≤ w.heap.size) (ty : TypeId) :
    ∃ v' w', (Builtin.append_ #[t, t] ty #[v, u]).run Tryz.prog w = .ok v' w' ∧ w'.ownsRow base e 1 v' (n + ys.length) (xs ++ ys) ∧ w.grownBy w' v.ownBlock := by
  obtain ⟨iT, hiT, hz1, hz2, hz3⟩ := info3 hI
  have hbb : ∀ k, k ≤ 1000000 → k * bytes ≤ 140737488355328 := fun k hk => Nat.le_trans (Nat.mul_le_mul hk hby) (by decide)
  have hml : maxLen = 9223372036854775807 := rfl
  rcases hu with ⟨rfl, ao, cap, rfl⟩ | ⟨g, off, cap, rfl, _, hc⟩
  · cases ao with
    | none =>
      refine ⟨v, w, ?_, by simpa using hown, ⟨rfl, rfl, rfl, Nat.le_refl _, fun k _ _ => rfl⟩⟩
      rcases hown.2 with ⟨rfl, rfl⟩ | ⟨g, cp, cur, rfl, _, _, hnc, _⟩
      · simp [Builtin.append_, run_underlying ht, sizeOf, typeInfo, hiT, Builtin.lenOf, Builtin.firstCells]
      · simp [Builtin.append_, run_underlying ht, sizeOf, typeInfo, hiT, Builtin.lenOf, Builtin.firstCells, hnc, storeCells]
    | some ad =>
      obtain ⟨v', w', q1, q2, q3, _⟩ := run_append_at (P := Tryz.prog) w t ty base e iT _ 1 bytes ht hiT hz1 hz2 hz3 hzc (by decide) v n xs hown ad 0 cap [] rfl (fun j x hj => (by cases hj)) (fun x hx => (by cases hx)) (by simp at hn; omega) (hbb _ (by simpa using hn)) hb
      exact ⟨v', w', q1, q2, q3⟩
  · obtain ⟨v', w', q1, q2, q3, _⟩ := run_append_at (P := Tryz.prog) w t ty base e iT _ 1 bytes ht hiT hz1 hz2 hz3 hzc (by decide) v n xs hown ⟨g, off, none⟩ ys.length cap ys (by simp) (fun j x hj => by rw [Addr.add_lit]; exact hc j x hj) h1 (by omega) (hbb _ hn) hb
    exact ⟨v', w', q1, q2, q3⟩
/-- So many values are there so far. -/
theorem flat_next {ls : List (List Value)} {k : Nat} {l : List Value} (hl : ls[k]? = some l) : (ls.take (k + 1)).flatten = (ls.take k).flatten ++ l := by
  obtain ⟨hk, rfl⟩ := List.getElem?_eq_some_iff.1 hl
  rw [List.take_succ_eq_append_getElem hk, List.flatten_append]
  simp
theorem flat_le (ls : List (List Value)) (k : Nat) : (ls.take k).flatten.length ≤ ls.flatten.length := by
  have h : ls.flatten = (ls.take k).flatten ++ (ls.drop k).flatten := by rw [← List.flatten_append, List.take_append_drop]
  rw [h, List.length_append]
  omega
end Go.Proofs.YtajfgmlockjmhaiGreatDoor
namespace Go.Proofs.YtajfgmlockjmhaiGreatDoor
open Go.RowKit

theorem fieldsSt : Tryz.prog.underlying 73 = some (.struct (Tryz.prog.fieldsOf 73)) := by kernel_rfl
theorem stoodSt : Tryz.prog.stoodInHeld 73 = false := by kernel_rfl
theorem guardSt : Tryz.prog.eqGuardType Tryz.prog.depth 73 = false := by kernel_rfl
theorem fieldsStIs : Tryz.prog.fieldsOf 73 = #[{ name := "At", type := 3, offset := 0, embedded := false, tag := "", pkgPath := "", byteOffset := 0 }, { name := "Cells", type := 71, offset := 1, embedded := false, tag := "", pkgPath := "", byteOffset := 8 }, { name := "Failed", type := 4, offset := 7, embedded := false, tag := "", pkgPath := "", byteOffset := 56 }] := by kernel_rfl
theorem eqIn_six (a b c d e f : Int) (w : World) : (Op.equalIn 9999 71 (.agg #[.int .i64 a, .int .i64 b, .int .i64 c, .int .i64 d, .int .i64 e, .int .i64 f]) (.agg #[.int .i64 a, .int .i64 b, .int .i64 c, .int .i64 d, .int .i64 e, .int .i64 f])).run Tryz.prog w = .ok true w := by
  obtain ⟨n, hn⟩ : ∃ n, n + 1 = 9999 := ⟨9998, rfl⟩
  obtain ⟨m, hm⟩ : ∃ m, n = m + 1 := ⟨9997, by omega⟩
  rw [← hn]
  clear hn
  have hq : ∀ (x : Int) (w : World), (Op.equalIn n 3 (.int .i64 x) (.int .i64 x)).run Tryz.prog w = .ok true w := fun x w => by
    rw [hm, run_equalIn_int w m 3 .i64 .i64 x x Tryz.underlying3]
    simp
  clear hm
  simp only [Op.equalIn, Sem.run_bind, run_underlying Tryz.underlying71, Result.andThen_ok]
  simp [List.range', go_sem, hq]
theorem eqIn_st (p a b c d e f : Int) (g : Bool) (w : World) : (Op.equalIn 10000 73 (.agg #[.int .i64 p, .int .i64 a, .int .i64 b, .int .i64 c, .int .i64 d, .int .i64 e, .int .i64 f, .bool g]) (.agg #[.int .i64 p, .int .i64 a, .int .i64 b, .int .i64 c, .int .i64 d, .int .i64 e, .int .i64 f, .bool g])).run Tryz.prog w = .ok true w := by
  rw [run_equalIn_agg _ _ _ _ _ fieldsSt stoodSt, fieldsStIs]
  simp [go_sem, Tryz.underlying3, Tryz.underlying4, eqIn_six]
theorem eql_st (p a b c d e f : Int) (g : Bool) (w : World) : (binOp .eql 73 (.agg #[.int .i64 p, .int .i64 a, .int .i64 b, .int .i64 c, .int .i64 d, .int .i64 e, .int .i64 f, .bool g]) (.agg #[.int .i64 p, .int .i64 a, .int .i64 b, .int .i64 c, .int .i64 d, .int .i64 e, .int .i64 f, .bool g])).run Tryz.prog w = .ok (.bool true) w := by
  rw [run_eql_struct, eqIn_st]
  rfl
theorem neq_st (p a b c d e f : Int) (g : Bool) (w : World) : (binOp .neq 73 (.agg #[.int .i64 p, .int .i64 a, .int .i64 b, .int .i64 c, .int .i64 d, .int .i64 e, .int .i64 f, .bool g]) (.agg #[.int .i64 p, .int .i64 a, .int .i64 b, .int .i64 c, .int .i64 d, .int .i64 e, .int .i64 f, .bool g])).run Tryz.prog w = .ok (.bool false) w := by
  rw [run_neq_struct, eqIn_st]
  rfl
end Go.Proofs.YtajfgmlockjmhaiGreatDoor
