/-
  CutMath, WMath, FlowMath, EBase, WStp, WVal, FlowBase, Info3, PushL, QuietLast, WayL, AppendAt, FrameMath, SeqMath, EvEq, FlEither, FlReached, FBase, FrameOwn, StEq: joined into one text.
-/
import Derived.Test.YtajfgmlockjmhafDoorRows
import Derived.WalkKit
import Derived.Deep.QuietTactic
import Derived.Deep.RegionHeld3
import Derived.BigQuiet
import Derived.Deep.MidRow
import Derived.Deep.RegionWith
import Derived.Deep.CutRange
import Derived.Deep.RegionLaw
import Derived.Lib.Bytealg
import Derived.Laws.StructEq
namespace Go.Proofs.YtajfgmlockjmhafDoor

/-- What is left to cut, 'cur' the piece begun. -/
def cutGo (c : UInt8) : List UInt8 → List UInt8 → List (List UInt8)
  | cur, [] => [cur]
  | cur, x :: xs => if x = c then cur :: cutGo c [] xs else cutGo c (cur ++ [x]) xs
def cutB (c : UInt8) (l : List UInt8) : List (List UInt8) := cutGo c [] l
theorem cutGo_hit {c x : UInt8} (h : x = c) (cur xs : List UInt8) : cutGo c cur (x :: xs) = cur :: cutGo c [] xs := by simp [cutGo, h]
theorem cutGo_miss {c x : UInt8} (h : x ≠ c) (cur xs : List UInt8) : cutGo c cur (x :: xs) = cutGo c (cur ++ [x]) xs := by simp [cutGo, h]
theorem cutGo_len (c : UInt8) : ∀ (l cur : List UInt8), 1 ≤ (cutGo c cur l).length ∧ (cutGo c cur l).length ≤ l.length + 1
  | [], cur => by simp [cutGo]
  | x :: xs, cur => by
    by_cases h : x = c
    · rw [cutGo_hit h]; have := cutGo_len c xs []; simp; omega
    · rw [cutGo_miss h]; have := cutGo_len c xs (cur ++ [x]); simp; omega
theorem cutGo_app (c : UInt8) : ∀ (l cur m : List UInt8), c ∉ l → cutGo c cur (l ++ m) = cutGo c (cur ++ l) m
  | [], cur, m, _ => by simp
  | x :: xs, cur, m, h => by
    have hx : x ≠ c := fun e => h (by simp [e])
    have hxs : c ∉ xs := fun e => h (by simp [e])
    rw [List.cons_append, cutGo_miss hx, cutGo_app c xs _ m hxs]; simp
/-- What is cut joins to what was. -/
theorem cutGo_none (c : UInt8) (l cur : List UInt8) (h : c ∉ l) : cutGo c cur l = [cur ++ l] := by
  have := cutGo_app c l cur [] h
  simpa [cutGo] using this
theorem cutGo_at (c : UInt8) (l cur m : List UInt8) (h : c ∉ l) : cutGo c cur (l ++ c :: m) = (cur ++ l) :: cutB c m := by
  rw [cutGo_app c l cur _ h, cutGo_hit rfl]; rfl

theorem drop_step {l : List UInt8} {k : Nat} (h : k < l.length) : l.drop k = l[k] :: l.drop (k + 1) := List.drop_eq_getElem_cons h
theorem piece_step {l : List UInt8} {k f : Nat} (h : k < l.length) (hf : f ≤ k) : (l.take (k + 1)).drop f = (l.take k).drop f ++ [l[k]] := by
  rw [List.take_succ_eq_append_getElem h, List.drop_append_of_le_length (by simp; omega)]
end Go.Proofs.YtajfgmlockjmhafDoor
namespace Go.Proofs.YtajfgmlockjmhafDoor

/-- How deep a wire of a kind may be. -/
def dpst (k : Int) : Int := if k = 1 then 1 else if k = 2 then 6 else 0
/-- What is wrong with a wire. -/
def wchk (f t k d : Int) : Int :=
  if 0 ≤ f ∧ f < 5 ∧ 0 ≤ t ∧ t < 5 ∧ 1 ≤ d ∧ d ≤ dpst k then (if f = t then 3 else 0) else 1
theorem wchk_kind {f t k d : Int} (h : wchk f t k d = 0) : (k = 1 ∧ d = 1) ∨ (k = 2 ∧ 1 ≤ d ∧ d ≤ 6) := by
  unfold wchk dpst at h
  by_cases h1 : k = 1
  · subst h1
    simp at h
    omega
  · by_cases h2 : k = 2
    · subst h2
      simp at h
      omega
    · simp [h1, h2] at h
      omega
/-- Numbers from one on, so many. -/
def rng (a : Int) (n : Nat) : List Int := (List.range n).map fun (i : Nat) => a + (i : Int)
theorem rng_len (a : Int) (n : Nat) : (rng a n).length = n := by simp [rng]
theorem rng_snoc (a : Int) (n : Nat) : rng a (n + 1) = rng a n ++ [a + n] := by simp [rng, List.range_succ]
theorem rng_zero (a : Int) : rng a 0 = [] := rfl
theorem rng_cons (a : Int) (n : Nat) : rng a (n + 1) = a :: rng (a + 1) n := by
  unfold rng
  rw [List.range_succ_eq_map]
  simp only [List.map_cons, List.map_map]
  refine congr (congrArg _ (by simp)) (List.map_congr_left fun i _ => ?_)
  simp
  omega
end Go.Proofs.YtajfgmlockjmhafDoor
namespace Go.Proofs.YtajfgmlockjmhafDoor

/-- A wire: from, to, kind, deep. -/
abbrev W4 := Int × Int × Int × Int
def w4chk (x : W4) : Int := wchk x.1 x.2.1 x.2.2.1 x.2.2.2
/-- Is there a wire from one to another one, or are they the same? -/
def edge (l : List W4) (i k : Nat) : Bool := decide (i = k) || l.any fun x => decide (x.1 = (i : Int)) && decide (x.2.1 = (k : Int))
/-- Is there a way, with none but rooms below m between? -/
def pm (e : Nat → Nat → Bool) : Nat → Nat → Nat → Bool
  | 0, i, k => e i k
  | m + 1, i, k => pm e m i k || (pm e m i m && pm e m m k)
theorem pm_zero (e : Nat → Nat → Bool) (i k : Nat) : pm e 0 i k = e i k := rfl
theorem pm_succ (e : Nat → Nat → Bool) (m i k : Nat) : pm e (m + 1) i k = (pm e m i k || (pm e m i m && pm e m m k)) := rfl
theorem pm_grow {e : Nat → Nat → Bool} {m i k : Nat} (h : pm e m i k = true) : pm e (m + 1) i k = true := by rw [pm_succ, h]; rfl
theorem pm_col {e : Nat → Nat → Bool} {m i : Nat} (h : pm e (m + 1) i m = true) : pm e m i m = true := by
  rw [pm_succ] at h
  cases h1 : pm e m i m
  · rw [h1] at h; simp at h
  · rfl
theorem pm_row {e : Nat → Nat → Bool} {m k : Nat} (h : pm e (m + 1) m k = true) : pm e m m k = true := by
  rw [pm_succ] at h
  cases h1 : pm e m m k
  · rw [h1] at h; simp at h
  · rfl
theorem pm_via {e : Nat → Nat → Bool} {m i k : Nat} (h1 : pm e m i m = true) (h2 : pm e m m k = true) : pm e (m + 1) i k = true := by rw [pm_succ, h1, h2]; simp
theorem pm_cases {e : Nat → Nat → Bool} {m i k : Nat} (h : pm e (m + 1) i k = true) : pm e m i k = true ∨ (pm e m i m = true ∧ pm e m m k = true) := by
  rw [pm_succ] at h
  simpa using h
theorem pm_trans (e : Nat → Nat → Bool) : ∀ (m i j k : Nat), j < m → pm e m i j = true → pm e m j k = true → pm e m i k = true
  | 0, i, j, k, h, _, _ => absurd h (Nat.not_lt_zero _)
  | m + 1, i, j, k, hj, h1, h2 => by
    by_cases hjm : j = m
    · subst hjm
      exact pm_via (pm_col h1) (pm_row h2)
    · have hj' : j < m := by omega
      rcases pm_cases h1 with a | ⟨a, b⟩
      · rcases pm_cases h2 with c | ⟨c, d⟩
        · exact pm_grow (pm_trans e m i j k hj' a c)
        · exact pm_via (pm_trans e m i j m hj' a c) d
      · rcases pm_cases h2 with c | ⟨c, d⟩
        · exact pm_via a (pm_trans e m m j k hj' b c)
        · exact pm_via a d
theorem pm_edge (e : Nat → Nat → Bool) : ∀ (m i k : Nat), e i k = true → pm e m i k = true
  | 0, _, _, h => h
  | m + 1, i, k, h => pm_grow (pm_edge e m i k h)
theorem pm_mono {e f : Nat → Nat → Bool} (h : ∀ i k, e i k = true → f i k = true) : ∀ (m i k : Nat), pm e m i k = true → pm f m i k = true
  | 0, i, k, h1 => h i k h1
  | m + 1, i, k, h1 => by
    rcases pm_cases h1 with a | ⟨a, b⟩
    · exact pm_grow (pm_mono h m i k a)
    · exact pm_via (pm_mono h m i m a) (pm_mono h m m k b)
/-- What each edge keeps, and what goes from one to the next, each way keeps. -/
theorem pm_keep {e : Nat → Nat → Bool} {R : Nat → Nat → Prop} (he : ∀ i k, e i k = true → R i k) (ht : ∀ i j k, R i j → R j k → R i k) : ∀ (m i k : Nat), pm e m i k = true → R i k
  | 0, i, k, h => he i k h
  | m + 1, i, k, h => by
    rcases pm_cases h with a | ⟨a, b⟩
    · exact pm_keep he ht m i k a
    · exact ht i m k (pm_keep he ht m i m a) (pm_keep he ht m m k b)
/-- Who reaches whom. -/
def way (l : List W4) (i k : Nat) : Bool := pm (edge l) 5 i k
theorem way_self (l : List W4) (i : Nat) : way l i i = true := pm_edge _ 5 i i (by simp [edge])
theorem way_trans (l : List W4) {i j k : Nat} (hj : j < 5) (h1 : way l i j = true) (h2 : way l j k = true) : way l i k = true := pm_trans _ 5 i j k hj h1 h2
theorem edge_more (l m : List W4) {i k : Nat} (h : edge l i k = true) : edge (l ++ m) i k = true := by
  simp only [edge, Bool.or_eq_true, List.any_append] at h ⊢
  rcases h with h | h
  · exact Or.inl h
  · exact Or.inr (Or.inl h)
theorem way_more (l m : List W4) {i k : Nat} (h : way l i k = true) : way (l ++ m) i k = true := pm_mono (fun _ _ h => edge_more l m h) 5 i k h
theorem edge_wire {l : List W4} {x : W4} (hx : x ∈ l) {i k : Nat} (h1 : x.1 = (i : Int)) (h2 : x.2.1 = (k : Int)) : edge l i k = true := by
  simp only [edge, Bool.or_eq_true, List.any_eq_true]
  exact Or.inr ⟨x, hx, by simp [h1, h2]⟩
/-- Whoever is reached by a step that starts where it is reached: the least such relation. -/
theorem way_least {l : List W4} {R : Nat → Nat → Prop} (hr : ∀ i, R i i) (hw : ∀ x ∈ l, ∀ i k : Nat, x.1 = (i : Int) → x.2.1 = (k : Int) → R i k) (ht : ∀ i j k, R i j → R j k → R i k) {i k : Nat} (h : way l i k = true) : R i k := by
  refine pm_keep (fun i k he => ?_) ht 5 i k h
  simp only [edge, Bool.or_eq_true, decide_eq_true_eq, List.any_eq_true, Bool.and_eq_true] at he
  rcases he with rfl | ⟨x, hx, h1, h2⟩
  · exact hr i
  · exact hw x hx i k h1 h2
/-- The first that is wrong. -/
def wscan : List W4 → Nat → Int × Int
  | [], _ => (0, 0)
  | x :: l, i => if w4chk x = 0 then wscan l (i + 1) else ((i : Int), w4chk x)
/-- What is wrong with wires: which, and how. -/
def wschk (l : List W4) : Int × Int := if 12 < l.length then (0, 4) else wscan l 0
theorem wscan_ok : ∀ {l : List W4} {i : Nat}, (wscan l i).2 = 0 → ∀ x ∈ l, w4chk x = 0
  | [], _, _, x, hx => by simp at hx
  | y :: l, i, h, x, hx => by
    unfold wscan at h
    by_cases hy : w4chk y = 0
    · rw [if_pos hy] at h
      rcases List.mem_cons.1 hx with rfl | hx
      · exact hy
      · exact wscan_ok h x hx
    · rw [if_neg hy] at h
      exact absurd h hy
theorem wschk_ok {l : List W4} (h : (wschk l).2 = 0) : l.length ≤ 12 ∧ ∀ x ∈ l, w4chk x = 0 := by
  unfold wschk at h
  by_cases hl : 12 < l.length
  · rw [if_pos hl] at h; simp at h
  · rw [if_neg hl] at h
    exact ⟨by omega, wscan_ok h⟩
theorem wscan_skip : ∀ (l : List W4) (k i : Nat), (∀ j x, j < k → l[j]? = some x → w4chk x = 0) → wscan l i = wscan (l.drop k) (i + k)
  | l, 0, i, _ => by simp
  | [], k + 1, i, _ => by simp [wscan]
  | x :: l, k + 1, i, h => by
    have hx : w4chk x = 0 := h 0 x (by omega) rfl
    have := wscan_skip l k (i + 1) (fun j y hj hy => h (j + 1) y (by omega) (by simpa using hy))
    simp only [wscan, hx, if_true, List.drop_succ_cons, this]
    congr 1
    omega
theorem wscan_hit {l : List W4} {k : Nat} {x : W4} (h : ∀ j y, j < k → l[j]? = some y → w4chk y = 0) (hx : l[k]? = some x) (hb : w4chk x ≠ 0) : wscan l 0 = ((k : Int), w4chk x) := by
  rw [wscan_skip l k 0 h]
  obtain ⟨hk, rfl⟩ := List.getElem?_eq_some_iff.1 hx
  rw [List.drop_eq_getElem_cons hk, wscan, if_neg hb, Nat.zero_add]
theorem wscan_none {l : List W4} (h : ∀ j y, j < l.length → l[j]? = some y → w4chk y = 0) : wscan l 0 = (0, 0) := by
  rw [wscan_skip l l.length 0 h]
  simp [wscan]
theorem w4_rooms {x : W4} (h : w4chk x = 0) : 0 ≤ x.1 ∧ x.1 < 5 ∧ 0 ≤ x.2.1 ∧ x.2.1 < 5 ∧ x.1 ≠ x.2.1 := by
  unfold w4chk wchk at h
  split at h
  · rename_i hc
    split at h
    · simp at h
    · omega
  · simp at h
end Go.Proofs.YtajfgmlockjmhafDoor
namespace Go.Proofs.YtajfgmlockjmhafDoor
open Go.RowKit

theorem wlt {w : World} {b o : Nat} {v : Value} (h : w.cell? ⟨b, o, none⟩ = some v) : b < w.heap.size := by
  rcases Nat.lt_or_ge b w.heap.size with h' | h'
  · exact h'
  · simp [World.cell?, Array.getElem?_eq_none h'] at h
theorem below_dN {B : Nat} {w w' : World} (h : Below B w w') : ∀ n, Below B w (w'.drewN n)
  | 0 => h
  | n + 1 => (below_dN h n).drew
/-- An error as a value. -/
def wErr (e : Int) : Value := if e = 0 then .nilIface else .iface 87 (.int .i64 e)
theorem wErr_not {e : Int} (h : e ≠ 0) : wErr e = .iface 87 (.int .i64 e) := by simp [wErr, h]
theorem wretB {a b : Bool} (h : a = b) : Ending.returned (.bool a) = .returned (.bool b) := by rw [h]
theorem wretI {k : IntKind} {a b : Int} (h : a = b) : Ending.returned (.int k a) = .returned (.int k b) := by rw [h]
end Go.Proofs.YtajfgmlockjmhafDoor
namespace Go.Proofs.YtajfgmlockjmhafDoor
open Go.RowKit

/-- Steps that came in. -/
def Stp (w : World) (v : Value) (l : List Int) : Prop := (l = [] ∧ ∃ ao cap, v = .slice ao 0 cap) ∨ ∃ b off cap, v = .slice (some ⟨b, off, none⟩) l.length cap ∧ b < w.heap.size ∧ ∀ (i : Nat) x, l[i]? = some x → w.cell? ⟨b, off + i, none⟩ = some (.int .i64 x)
theorem Stp.form {w : World} {v : Value} {l : List Int} (h : Stp w v l) : ∃ ao cap, v = .slice ao l.length cap := by
  rcases h with ⟨rfl, ao, cap, rfl⟩ | ⟨b, off, cap, rfl, _⟩
  · exact ⟨ao, cap, rfl⟩
  · exact ⟨_, cap, rfl⟩
theorem Stp.at {w wr : World} {ao : Option Addr} {cap : Nat} {l : List Int} (h : Stp w (.slice ao l.length cap) l) (hb : Below w.heap.size w wr) {i : Nat} (hi : i < l.length) : ∃ b off x, ao = some ⟨b, off, none⟩ ∧ wr.cell? ⟨b, off + i, none⟩ = some (.int .i64 x) ∧ l[i]? = some x := by
  rcases h with ⟨rfl, _⟩ | ⟨b, off, cap', e, hlt, hc⟩
  · simp at hi
  · injection e with e1
    exact ⟨b, off, l[i], e1, (hb.cell (p := ⟨b, _, none⟩) hlt).trans (hc i _ (List.getElem?_eq_getElem hi)), List.getElem?_eq_getElem hi⟩
theorem Stp.at0 {w : World} {ao : Option Addr} {cap : Nat} {l : List Int} (h : Stp w (.slice ao l.length cap) l) {i : Nat} (hi : i < l.length) : ∃ b off x, ao = some ⟨b, off, none⟩ ∧ b < w.heap.size ∧ w.cell? ⟨b, off + i, none⟩ = some (.int .i64 x) := by
  rcases h with ⟨rfl, _⟩ | ⟨b, off, cap', e, hlt, hc⟩
  · simp at hi
  · injection e with e1
    exact ⟨b, off, l[i], e1, hlt, hc i _ (List.getElem?_eq_getElem hi)⟩
theorem Stp.every {w w' : World} {v : Value} {l : List Int} (h : Stp w v l) (hb : Below w.heap.size w w') : Stp w' v l := by
  rcases h with h | ⟨b, off, cap, rfl, hlt, hc⟩
  · exact Or.inl h
  · exact Or.inr ⟨b, off, cap, rfl, Nat.lt_of_lt_of_le hlt hb.size, fun i x hx => (hb.cell (p := ⟨b, _, none⟩) hlt).trans (hc i x hx)⟩
end Go.Proofs.YtajfgmlockjmhafDoor
namespace Go.Proofs.YtajfgmlockjmhafDoor
open Go.RowKit

/-- A wire as a value. -/
def wV (f t k d : Int) : Value := .agg #[.int .i64 f, .int .i64 t, .int .i64 k, .int .i64 d]
end Go.Proofs.YtajfgmlockjmhafDoor
namespace Go.Proofs.YtajfgmlockjmhafDoor
open Go.RowKit

/-- The cells of wires. -/
def WrC (w : World) (b off : Nat) (l : List W4) : Prop := ∀ (i : Nat) x, l[i]? = some x → w.cell? ⟨b, off + i * 4, none⟩ = some (.int .i64 x.1) ∧ w.cell? ⟨b, off + i * 4 + 1, none⟩ = some (.int .i64 x.2.1) ∧ w.cell? ⟨b, off + i * 4 + 2, none⟩ = some (.int .i64 x.2.2.1) ∧ w.cell? ⟨b, off + i * 4 + 3, none⟩ = some (.int .i64 x.2.2.2)
/-- Wires that can be read. -/
def Wrs (w : World) (v : Value) (l : List W4) : Prop :=
  (l = [] ∧ ∃ ao cap, v = .slice ao 0 cap) ∨ ∃ b off cap, v = .slice (some ⟨b, off, none⟩) l.length cap ∧ l.length ≤ cap ∧ b < w.heap.size ∧ WrC w b off l
theorem WrC.below {w w' : World} {b off B : Nat} {l : List W4} (h : WrC w b off l) (hb : Below B w w') (hlt : b < B) : WrC w' b off l := fun i o ho => by
  obtain ⟨h0, h1, h2, h3⟩ := h i o ho
  exact ⟨(hb.cell (p := ⟨b, _, none⟩) hlt).trans h0, (hb.cell (p := ⟨b, _, none⟩) hlt).trans h1, (hb.cell (p := ⟨b, _, none⟩) hlt).trans h2, (hb.cell (p := ⟨b, _, none⟩) hlt).trans h3⟩
theorem Wrs.all {w w' : World} {v : Value} {l : List W4} (h : Wrs w v l) (hb : Below w.heap.size w w') : Wrs w' v l := by
  rcases h with h | ⟨b, off, cap, rfl, hcap, hlt, hc⟩
  · exact Or.inl h
  · exact Or.inr ⟨b, off, cap, rfl, hcap, Nat.lt_of_lt_of_le hlt hb.size, hc.below hb hlt⟩
theorem Wrs.form {w : World} {v : Value} {l : List W4} (h : Wrs w v l) : ∃ ao cap, v = .slice ao l.length cap := by
  rcases h with ⟨rfl, ao, cap, rfl⟩ | ⟨b, off, cap, rfl, _⟩
  · exact ⟨ao, cap, rfl⟩
  · exact ⟨_, cap, rfl⟩
theorem Wrs.at {w : World} {ao : Option Addr} {cap : Nat} {l : List W4} (h : Wrs w (.slice ao l.length cap) l) {i : Nat} (hi : i < l.length) : ∃ b off f t k d, ao = some ⟨b, off, none⟩ ∧ b < w.heap.size ∧ l[i]? = some (f, t, k, d) ∧ w.cell? ⟨b, off + i * 4, none⟩ = some (.int .i64 f) ∧ w.cell? ⟨b, off + i * 4 + 1, none⟩ = some (.int .i64 t) ∧ w.cell? ⟨b, off + i * 4 + 2, none⟩ = some (.int .i64 k) ∧ w.cell? ⟨b, off + i * 4 + 3, none⟩ = some (.int .i64 d) := by
  rcases h with ⟨rfl, _⟩ | ⟨b, off, cap', e, _, hlt, hc⟩
  · simp at hi
  · injection e with e1
    obtain ⟨⟨f, t, k, d⟩, hx'⟩ : ∃ x : W4, l[i]? = some x := ⟨l[i], List.getElem?_eq_getElem hi⟩
    obtain ⟨h0, h1, h2, h3⟩ := hc i _ hx'
    exact ⟨b, off, f, t, k, d, e1, hlt, hx', h0, h1, h2, h3⟩
end Go.Proofs.YtajfgmlockjmhafDoor
namespace Go.Proofs.YtajfgmlockjmhafDoor
open Go.RowKit

theorem info3 {e : TypeId} {z : Value} {s b : Nat} (h : (Tryd.prog.info? e).map (fun i => (i.zero, i.size, i.bytes)) = some (some z, s, b)) : ∃ i, Tryd.prog.info? e = some i ∧ i.zero = some z ∧ i.size = s ∧ i.bytes = b := by
  cases hq : Tryd.prog.info? e with
  | none => rw [hq] at h; cases h
  | some i =>
    rw [hq] at h
    have := Option.some.inj h
    simp only [Prod.mk.injEq] at this
    exact ⟨i, rfl, this⟩
theorem own_base {w : World} {base base' : Nat} {e : TypeId} {size : Nat} {v : Value} {n : Nat} {xs : List Value} (h : w.ownsRow base e size v n xs) (hb : base' ≤ base) : w.ownsRow base' e size v n xs := by
  refine ⟨h.1, ?_⟩
  rcases h.2 with h2 | ⟨g, cap, cur, h1, h2, h3⟩
  · exact Or.inl h2
  · exact Or.inr ⟨g, cap, cur, h1, Nat.le_trans hb h2, h3⟩
end Go.Proofs.YtajfgmlockjmhafDoor
namespace Go.Proofs.YtajfgmlockjmhafDoor
open Go.RowKit

section
variable {P : Program} {ops : Array Oper} {st : Oper} {Q : Exit → Act → World → Prop}

/-- Behind a normal end the last operation; else as ever. -/
abbrev thenLast (P : Program) (st : Oper) (Q : Exit → Act → World → Prop) : Exit → Act → World → Prop := Exit.then (fun a w => st.wp P a w (Q .normal) Q) Q

theorem lets_out (h : LetsOut (thenLast P st Q)) : LetsOut Q := by
  obtain ⟨a, w, h⟩ := h
  exact ⟨a, w, h⟩
theorem oper_out {o : Oper} {a : Act} {w : World} {K : Act → World → Prop} (h : o.wp P a w K (thenLast P st Q)) : o.wp P a w K Q := by
  unfold Oper.wp at *
  generalize (execOp a.eval o).run P w = r at *
  cases r with
  | ok n w' =>
    cases n <;> simp only [Oper.upon] at h ⊢ <;> first
      | exact h
      | exact Calls.mono h (fun e w'' he => by cases e <;> first | exact he | exact lets_out he)
  | halt x w' => cases x <;> simp only [Oper.upon] at h ⊢ <;> exact h
/-- Guards none, edges backward, the last one waits for all, itself or by one that it waits for. -/
def WaitsAll (ops : Array Oper) (st : Oper) : Prop :=
  (∀ (i : Nat) o, ops[i]? = some o → o.guard = none ∧ ∀ e ∈ o.after, Region.binds .any e = true → e.on < i) ∧ st.guard = none ∧ (∀ j, j < ops.size → ∃ e ∈ st.after, Region.binds .any e = true ∧ (e.on = j ∨ ∃ o, ops[e.on]? = some o ∧ ∃ e' ∈ o.after, Region.binds .any e' = true ∧ e'.on = j)) ∧ ∀ e ∈ st.after, Region.binds .any e = true → e.on < ops.size
/-- What is listed waits for nothing. -/
def Shut (ops : Array Oper) (listed : Array Bool) : Prop := ∀ (i : Nat) o, listed.getD i false = true → ops[i]? = some o → ∀ e ∈ o.after, Region.binds .any e = true → listed.getD e.on false = true
theorem push_getD {listed : Array Bool} {n : Nat} (hn : listed.size = n) (d : Bool) {j : Nat} (hj : j < n) : (listed.push false).getD j d = listed.getD j d := by
  simp [Array.getElem?_push, show j ≠ listed.size by omega]
theorem push_last {listed : Array Bool} {n : Nat} (hn : listed.size = n) (d : Bool) : (listed.push false).getD n d = false := by
  subst hn
  simp
/-- None is ready: all are listed. -/
theorem all_listed (h : WaitsAll ops st) {listed : Array Bool} (hn : listed.size = ops.size) (hr : Region.ready .any ops listed = []) : ∀ j, j < ops.size → listed.getD j false = true := by
  intro j
  induction j using Nat.strongRecOn with
  | _ j ih =>
    intro hj
    cases hb : listed.getD j false with
    | true => rfl
    | false =>
      exfalso
      have hm : j ∈ Region.ready .any ops listed := by
        rw [mem_ready]
        refine ⟨?_, ops[j], Array.getElem?_eq_getElem hj, fun e he hbd => ?_⟩
        · simp only [Array.getD_eq_getD_getElem?, Array.getElem?_eq_getElem (show j < listed.size by omega), Option.getD_some] at hb ⊢
          exact hb
        · have hlt := (h.1 j _ (Array.getElem?_eq_getElem hj)).2 e he hbd
          exact ih e.on hlt (by omega)
      rw [hr] at hm
      cases hm
theorem ready_push (h : WaitsAll ops st) {listed : Array Bool} (hn : listed.size = ops.size) (hsh : Shut ops listed) {j : Nat} (hj : j ∈ Region.ready .any (ops.push st) (listed.push false)) : (j ∈ Region.ready .any ops listed) ∨ (j = ops.size ∧ ∀ i, i < ops.size → listed.getD i false = true) := by
  rw [mem_ready] at hj
  obtain ⟨h0, o, ho, hall⟩ := hj
  have hlt : j < (ops.push st).size := (Array.getElem?_eq_some_iff.1 ho).1
  rw [Array.size_push] at hlt
  by_cases hjn : j = ops.size
  · refine Or.inr ⟨hjn, fun i hi => ?_⟩
    subst hjn
    rw [Array.getElem?_push_size] at ho
    obtain rfl := Option.some.inj ho
    obtain ⟨e, he, hb, hon⟩ := h.2.2.1 i hi
    have := hall e he hb
    rw [push_getD hn _ (h.2.2.2 e he hb)] at this
    rcases hon with hon | ⟨o, ho, e', he', hb', hon⟩
    · rw [hon] at this
      exact this
    · have h2 := hsh e.on o this ho e' he' hb'
      rw [hon] at h2
      exact h2
  · have hj' : j < ops.size := by omega
    left
    rw [mem_ready]
    rw [Array.getElem?_push_lt hj'] at ho
    refine ⟨by rw [push_getD hn _ hj'] at h0; exact h0, o, by rw [Array.getElem?_eq_getElem hj']; exact ho, fun e he hb => ?_⟩
    have h1 := hall e he hb
    have h2 := (h.1 j o (by rw [Array.getElem?_eq_getElem hj']; exact ho)).2 e he hb
    rw [push_getD hn _ (show e.on < ops.size by omega)] at h1
    exact h1
theorem op_push (h : WaitsAll ops st) {i : Nat} (hi : i < ops.size) {K K' : Act → World → Prop} {a : Act} {w : World} (hk : ∀ a w, K a w → K' a w) (hw : wpOp P ops (thenLast P st Q) i K a w) : wpOp P (ops.push st) Q i K' a w := by
  unfold wpOp at *
  rw [Array.getElem?_push_lt hi]
  rw [Array.getElem?_eq_getElem hi] at hw
  have hg := (h.1 i _ (Array.getElem?_eq_getElem hi)).1
  simp only [Region.wanted, hg, if_true] at hw ⊢
  rcases hw with hw | ⟨h1, h2⟩
  · exact Or.inl (Oper.wp_mono hk (oper_out hw))
  · exact Or.inr ⟨h1, lets_out h2⟩
theorem last_push (h : WaitsAll ops st) {listed : Array Bool} (hn : listed.size = ops.size) (hl : ∀ i, i < ops.size → listed.getD i false = true) (fuel : Nat) {a : Act} {w : World} (hq : st.wp P a w (Q .normal) Q) : wpAny P .any (ops.push st) Q (fuel + 1) (listed.push false) a w := by
  have hme : ops.size ∈ Region.ready .any (ops.push st) (listed.push false) := by
    rw [mem_ready]
    refine ⟨push_last hn true, st, Array.getElem?_push_size, fun e he hb => ?_⟩
    have := h.2.2.2 e he hb
    rw [push_getD hn _ this]
    exact hl _ this
  refine ⟨fun h0 => (by rw [h0] at hme; cases hme), fun i hi => ?_⟩
  have hin : i = ops.size := by
    have hsh : Shut ops listed := fun i o _ ho e he hb => by
      have h1 := (Array.getElem?_eq_some_iff.1 ho).1
      have h2 := (h.1 i o ho).2 e he hb
      exact hl _ (by omega)
    rcases ready_push h hn hsh hi with h1 | ⟨h1, _⟩
    · rw [mem_ready] at h1
      obtain ⟨h2, o, ho, _⟩ := h1
      have hlt := (Array.getElem?_eq_some_iff.1 ho).1
      have := hl i hlt
      simp only [Array.getD_eq_getD_getElem?, Array.getElem?_eq_getElem (show i < listed.size by omega), Option.getD_some] at h2 this
      rw [h2] at this
      cases this
    · exact h1
  subst hin
  have hdone : ∀ a w, Q .normal a w → ∀ fuel, wpAny P .any (ops.push st) Q fuel ((listed.push false).setIfInBounds ops.size true) a w := fun a w hqn fuel => by
    refine wpAny_done ?_ hqn fuel
    rw [List.eq_nil_iff_forall_not_mem]
    intro j hj
    rw [mem_ready] at hj
    obtain ⟨h2, o, ho, _⟩ := hj
    have hlt := (Array.getElem?_eq_some_iff.1 ho).1
    rw [Array.size_push] at hlt
    by_cases hjn : j = ops.size
    · subst hjn
      simp [hn.symm] at h2
    · rw [getD_set_ne true (Ne.symm hjn), push_getD hn _ (by omega)] at h2
      have := hl j (by omega)
      simp only [Array.getD_eq_getD_getElem?, Array.getElem?_eq_getElem (show j < listed.size by omega), Option.getD_some] at h2 this
      rw [h2] at this
      cases this
  unfold wpOp
  rw [Array.getElem?_push_size]
  simp only [Region.wanted, h.2.1, if_true]
  exact Or.inl (Oper.wp_mono (fun a w hqn => hdone a w hqn fuel) hq)
theorem shut_step {listed : Array Bool} (hsh : Shut ops listed) {i : Nat} (hi : i ∈ Region.ready .any ops listed) : Shut ops (listed.setIfInBounds i true) := by
  have up : ∀ j, listed.getD j false = true → (listed.setIfInBounds i true).getD j false = true := fun j hj => by
    by_cases hji : i = j
    · subst hji
      have hlt : i < listed.size := by
        rcases Nat.lt_or_ge i listed.size with h | h
        · exact h
        · simp [Array.getElem?_eq_none h] at hj
      simp [hlt]
    · rw [getD_set_ne false hji]
      exact hj
  intro j o hj ho e he hb
  by_cases hji : i = j
  · subst hji
    rw [mem_ready] at hi
    obtain ⟨_, o', ho', hall⟩ := hi
    rw [ho] at ho'
    obtain rfl := Option.some.inj ho'
    exact up _ (hall e he hb)
  · rw [getD_set_ne false hji] at hj
    exact up _ (hsh j o hj ho e he hb)
theorem wpAny_push (h : WaitsAll ops st) : ∀ (fuel : Nat) (listed : Array Bool) (a : Act) (w : World), listed.size = ops.size → Shut ops listed → wpAny P .any ops (thenLast P st Q) fuel listed a w → wpAny P .any (ops.push st) Q (fuel + 1) (listed.push false) a w
  | 0, listed, a, w, hn, _, hw => last_push h hn (all_listed h hn hw.1) 0 hw.2
  | fuel + 1, listed, a, w, hn, hsh, hw => by
    by_cases hr : Region.ready .any ops listed = []
    · exact last_push h hn (all_listed h hn hr) _ (hw.1 hr)
    · have hnot : ¬ ∀ i, i < ops.size → listed.getD i false = true := fun hl => by
        obtain ⟨x, hx⟩ := List.exists_mem_of_ne_nil _ hr
        rw [mem_ready] at hx
        obtain ⟨h2, o, ho, _⟩ := hx
        have hlt := (Array.getElem?_eq_some_iff.1 ho).1
        have := hl x hlt
        simp only [Array.getD_eq_getD_getElem?, Array.getElem?_eq_getElem (show x < listed.size by omega), Option.getD_some] at h2 this
        rw [h2] at this
        cases this
      refine ⟨fun h0 => ?_, fun i hi => ?_⟩
      · exfalso
        obtain ⟨x, hx⟩ := List.exists_mem_of_ne_nil _ hr
        have hx' : x ∈ Region.ready .any (ops.push st) (listed.push false) := by
          rw [mem_ready] at hx ⊢
          obtain ⟨h2, o, ho, h3⟩ := hx
          have hlt := (Array.getElem?_eq_some_iff.1 ho).1
          refine ⟨by rw [push_getD hn _ hlt]; exact h2, o, by rw [Array.getElem?_push_lt hlt]; rw [Array.getElem?_eq_getElem hlt] at ho; exact ho, fun e he hb => ?_⟩
          have := (h.1 x o ho).2 e he hb
          rw [push_getD hn _ (show e.on < ops.size by omega)]
          exact h3 e he hb
        rw [h0] at hx'
        cases hx'
      · rcases ready_push h hn hsh hi with h1 | ⟨_, h1⟩
        · have hlt : i < ops.size := by
            rw [mem_ready] at h1
            obtain ⟨_, o, ho, _⟩ := h1
            exact (Array.getElem?_eq_some_iff.1 ho).1
          refine op_push h hlt (fun a' w' h2 => ?_) (hw.2 i h1)
          have h3 := wpAny_push h fuel (listed.setIfInBounds i true) a' w' (by simpa using hn) (shut_step hsh h1) h2
          have e : (listed.push false).setIfInBounds i true = (listed.setIfInBounds i true).push false := by
            apply Array.ext_getElem?
            intro j
            by_cases hji : i = j
            · subst hji
              rw [Array.getElem?_setIfInBounds_self, Array.getElem?_push_lt (by simpa using (show i < listed.size by omega))]
              simp [show i < listed.size + 1 by omega]
            · rw [Array.getElem?_setIfInBounds_ne hji, Array.getElem?_push, Array.getElem?_push, Array.size_setIfInBounds, Array.getElem?_setIfInBounds_ne hji]
          rw [e]
          exact h3
        · exact absurd h1 hnot
/-- The check, reckoned. -/
def waitsB (ops : Array Oper) (st : Oper) : Bool :=
  (List.range ops.size).all (fun i => match ops[i]? with | some o => o.guard.isNone && o.after.all (fun e => !Region.binds .any e || decide (e.on < i)) | none => true) && st.guard.isNone && (List.range ops.size).all (fun j => st.after.any (fun e => Region.binds .any e && (decide (e.on = j) || match ops[e.on]? with | some o => o.after.any (fun e' => Region.binds .any e' && decide (e'.on = j)) | none => false))) && st.after.all (fun e => !Region.binds .any e || decide (e.on < ops.size))
theorem waits_of (h : waitsB ops st = true) : WaitsAll ops st := by
  unfold waitsB at h
  simp only [Bool.and_eq_true, List.all_eq_true, List.mem_range, Array.all_eq_true_iff_forall_mem, Bool.or_eq_true, Bool.not_eq_true', decide_eq_true_eq] at h
  obtain ⟨⟨⟨h1, h2⟩, h3⟩, h4⟩ := h
  refine ⟨fun i o ho => ?_, by simpa using h2, fun j hj => ?_, fun e he hb => ?_⟩
  · have hi := (Array.getElem?_eq_some_iff.1 ho).1
    have := h1 i hi
    rw [ho] at this
    simp only [Bool.and_eq_true, Array.all_eq_true_iff_forall_mem, Bool.or_eq_true, Bool.not_eq_true', decide_eq_true_eq] at this
    refine ⟨by simpa using this.1, fun e he hb => ?_⟩
    rcases this.2 e he with h5 | h5
    · rw [hb] at h5; cases h5
    · exact h5
  · have := h3 j hj
    rw [Array.any_eq_true] at this
    obtain ⟨k, hk, hx⟩ := this
    simp only [Bool.and_eq_true, Bool.or_eq_true, decide_eq_true_eq] at hx
    refine ⟨_, Array.getElem_mem hk, hx.1, ?_⟩
    rcases hx.2 with h5 | h5
    · exact Or.inl h5
    · right
      cases ho : ops[(st.after[k]).on]? with
      | none => rw [ho] at h5; cases h5
      | some o =>
        rw [ho] at h5
        simp only [Array.any_eq_true, Bool.and_eq_true, decide_eq_true_eq] at h5
        obtain ⟨m, hm, h6, h7⟩ := h5
        exact ⟨o, rfl, _, Array.getElem_mem hm, h6, h7⟩
  · rcases h4 e he with h5 | h5
    · rw [hb] at h5; cases h5
    · exact h5
/-- A region that draws, whose last operation waits for all others. -/
theorem wp_region_last {id : Nat} {all : Array Oper} {a : Act} {w : World} (S : World → Prop) (hm : P.follows .mixedOrders = true) (ha : all = ops.push st) (hc : waitsB ops st = true)
    (h : wpAnyH P .any ops (thenLast P st Q) S ops.size (Array.replicate ops.size false) a w.drew) : (Code.region id all true).wp P Q a w := by
  subst ha
  refine wp_region_any hm ?_
  have := wpAny_push (waits_of hc) _ _ a _ (by simp) (fun i o hi => by exfalso; simp only [Array.getD_eq_getD_getElem?, Array.getElem?_replicate] at hi; split at hi <;> simp at hi) (wpAny_of_held _ _ _ _ h)
  rw [Array.size_push, Array.replicate_succ]
  exact this
/-- .. the region written out. -/
theorem wp_region_popped {P : Program} {Q : Exit → Act → World → Prop} {id : Nat} {all : Array Oper} {st : Oper} {a : Act} {w : World} (S : World → Prop) (hm : P.follows .mixedOrders = true) (ha : all = all.pop.push st) (hc : waitsB all.pop st = true) (hS : S w.drew)
    (h : S w.drew → wpAnyH P .any all.pop (thenLast P st Q) S all.pop.size (Array.replicate all.pop.size false) a w.drew) : (Code.region id all true).wp P Q a w := wp_region_last S hm ha hc (h hS)
end
end Go.Proofs.YtajfgmlockjmhafDoor
namespace Go.Proofs.YtajfgmlockjmhafDoor
open Go.RowKit

theorem wp_region_quiet_last {P : Program} {Q : Exit → Act → World → Prop} {id : Nat} {l : List Oper} {st : Oper} {a : Act} {w : World} (hm : P.follows .mixedOrders = true) (ha : l.toArray = l.dropLast.toArray.push st) (hc : waitsB l.dropLast.toArray st = true) (hB : Region.lexB .any l.dropLast.toArray = true)
    (h : wpQuiet P l.dropLast.toArray (fun w' => ∃ n, w' = w.drewN n) (fun a' => ∀ w', (∃ n, w' = w.drewN n) → st.wp P a' w' (Q .normal) Q) l.dropLast a) : (Code.region id l.toArray true).wp P Q a w := by
  rw [ha]
  refine wp_region_any hm ?_
  simp only [Region.lexB, Bool.and_eq_true] at hB
  have h1 := wpAnyQ_lex (P := P) (C := fun w' => ∃ n, w' = w.drewN n) (md := .any) hB.1 l.dropLast 0 (Array.replicate l.dropLast.toArray.size false) a (by simp) (by simpa using hB.2) h
  have h2 : wpAny P .any l.dropLast.toArray (thenLast P st Q) l.dropLast.length (Array.replicate l.dropLast.toArray.size false) a w.drew := wpAny_of_quiet (fun a' w' hw' h => h w' hw') _ _ _ _ ⟨1, rfl⟩ h1
  have h3 := wpAny_push (waits_of hc) _ _ a _ (by simp) (fun i o hi => by exfalso; simp only [Array.getD_eq_getD_getElem?, Array.getElem?_replicate] at hi; split at hi <;> simp at hi) h2
  rw [Array.size_push, Array.replicate_succ]
  simpa using h3
end Go.Proofs.YtajfgmlockjmhafDoor
namespace Go.Proofs.YtajfgmlockjmhafDoor
open Go.RowKit

/-- Five rows of five, in a block. -/
def Mx (w : World) (b : Nat) (M : Nat → Nat → Bool) : Prop := ∀ i k, i < 5 → k < 5 → w.cell? ⟨b, i * 5 + k, none⟩ = some (.bool (M i k)) ∧ w.frozen? ⟨b, i * 5 + k, none⟩ = false
def mset (M : Nat → Nat → Bool) (i k : Nat) : Nat → Nat → Bool := fun x y => if x = i ∧ y = k then true else M x y
theorem mset_at (M : Nat → Nat → Bool) (i k : Nat) : mset M i k i k = true := by simp [mset]
theorem mset_off (M : Nat → Nat → Bool) {i k x y : Nat} (h : ¬ (x = i ∧ y = k)) : mset M i k x y = M x y := by simp [mset, h]
theorem Mx.set {w : World} {b : Nat} {M : Nat → Nat → Bool} (h : Mx w b M) {i k : Nat} (hi : i < 5) (hk : k < 5) : Mx (w.setCell ⟨b, i * 5 + k, none⟩ (.bool true)) b (mset M i k) := fun x y hx hy => by
  obtain ⟨h1, h2⟩ := h x y hx hy
  obtain ⟨h3, h4⟩ := h i k hi hk
  refine ⟨?_, (World.frozen?_setCell _ _ _ _).trans h2⟩
  by_cases he : x = i ∧ y = k
  · obtain ⟨rfl, rfl⟩ := he
    rw [mset_at]
    simp [go_sem, h1]
  · rw [mset_off _ he]
    rw [World.cell?_setCell_other _ _ _ _ (by intro e; injection e with _ e2; omega)]
    exact h1
theorem Mx.below {w w' : World} {b B : Nat} {M : Nat → Nat → Bool} (h : Mx w b M) (hb : Below B w w') (hB : b < B) : Mx w' b M := fun x y hx hy =>
  ⟨(hb.cell (p := ⟨b, _, none⟩) hB).trans (h x y hx hy).1, (hb.frozen (p := ⟨b, _, none⟩) hB).trans (h x y hx hy).2⟩
theorem Mx.apart {w : World} {b c : Nat} {M : Nat → Nat → Bool} (h : Mx w b M) (hne : b ≠ c) (i : Nat) (u : Value) : Mx (w.setCell ⟨c, i, none⟩ u) b M := fun x y hx hy =>
  ⟨(World.cell?_of_block (w := w) (a := ⟨b, x * 5 + y, none⟩) (Below.heap_setCell _ _ _ _ hne)).trans (h x y hx hy).1, (World.frozen?_setCell _ _ _ _).trans (h x y hx hy).2⟩
theorem Mx.drew {w : World} {b : Nat} {M : Nat → Nat → Bool} (h : Mx w b M) : Mx w.drew b M := h
theorem take_snoc4 {l : List W4} {k : Nat} {x : W4} (h : l[k]? = some x) : l.take (k + 1) = l.take k ++ [x] := by
  obtain ⟨hk, rfl⟩ := List.getElem?_eq_some_iff.1 h
  rw [List.take_succ_eq_append_getElem hk]
theorem Mx.congr {w : World} {b : Nat} {M N : Nat → Nat → Bool} (h : Mx w b M) (he : ∀ x y, x < 5 → y < 5 → M x y = N x y) : Mx w b N := fun x y hx hy => by rw [← he x y hx hy]; exact h x y hx hy
/-- Within one m: between what was and what will be. -/
def Win (e : Nat → Nat → Bool) (m i k : Nat) (M : Nat → Nat → Bool) : Prop := ∀ x y, x < 5 → y < 5 → (pm e m x y = true → M x y = true) ∧ (M x y = true → pm e (m + 1) x y = true) ∧ ((x < i ∨ (x = i ∧ y < k)) → M x y = pm e (m + 1) x y)
theorem Win.start (e : Nat → Nat → Bool) (m : Nat) : Win e m 0 0 (pm e m) := fun x y _ _ => ⟨id, pm_grow, fun h => by omega⟩
theorem Win.line {e : Nat → Nat → Bool} {m i : Nat} {M : Nat → Nat → Bool} (h : Win e m i 5 M) : Win e m (i + 1) 0 M := fun x y hx hy => ⟨(h x y hx hy).1, (h x y hx hy).2.1, fun hh => (h x y hx hy).2.2 (by omega)⟩
theorem Win.last {e : Nat → Nat → Bool} {m : Nat} {M : Nat → Nat → Bool} (h : Win e m 5 0 M) : ∀ x y, x < 5 → y < 5 → M x y = pm e (m + 1) x y := fun x y hx hy => (h x y hx hy).2.2 (by omega)
theorem Win.yes {e : Nat → Nat → Bool} {m i k : Nat} {M : Nat → Nat → Bool} (h : Win e m i k M) (hm : m < 5) (hi : i < 5) (hk : k < 5) (h1 : M i m = true) (h2 : M m k = true) : Win e m i (k + 1) (mset M i k) := by
  have hv : pm e (m + 1) i k = true := pm_via (pm_col ((h i m hi hm).2.1 h1)) (pm_row ((h m k hm hk).2.1 h2))
  intro x y hx hy
  by_cases he : x = i ∧ y = k
  · obtain ⟨rfl, rfl⟩ := he
    rw [mset_at]
    exact ⟨fun _ => rfl, fun _ => hv, fun _ => hv.symm⟩
  · rw [mset_off _ he]
    exact ⟨(h x y hx hy).1, (h x y hx hy).2.1, fun hh => (h x y hx hy).2.2 (by omega)⟩
theorem Win.no {e : Nat → Nat → Bool} {m i k : Nat} {M : Nat → Nat → Bool} (h : Win e m i k M) (hm : m < 5) (hi : i < 5) (hk : k < 5) (h0 : ¬ (M i m = true ∧ M m k = true)) : Win e m i (k + 1) M := by
  intro x y hx hy
  refine ⟨(h x y hx hy).1, (h x y hx hy).2.1, fun hh => ?_⟩
  by_cases he : x = i ∧ y = k
  · obtain ⟨rfl, rfl⟩ := he
    cases hM : M x y with
    | true => exact ((h x y hx hy).2.1 hM).symm
    | false =>
      cases hp : pm e (m + 1) x y with
      | false => rfl
      | true =>
        rcases pm_cases hp with a | ⟨a, b⟩
        · rw [(h x y hx hy).1 a] at hM; cases hM
        · exact absurd ⟨(h x m hx hm).1 a, (h m y hm hy).1 b⟩ h0
  · exact (h x y hx hy).2.2 (by omega)
theorem edge_snoc (l : List W4) (f t k d : Int) (i j : Nat) (hi : f = (i : Int)) (hj : t = (j : Int)) : ∀ x y, mset (edge l) i j x y = edge (l ++ [(f, t, k, d)]) x y := fun x y => by
  subst hi
  subst hj
  by_cases he : x = i ∧ y = j
  · obtain ⟨rfl, rfl⟩ := he
    rw [mset_at, edge_wire (x := ((x : Int), (y : Int), k, d)) (by simp) rfl rfl]
  · rw [mset_off _ he]
    simp only [edge, List.any_append, List.any_cons, List.any_nil, Bool.or_false]
    have : (decide ((i : Int) = (x : Int)) && decide ((j : Int) = (y : Int))) = false := by
      rw [Bool.and_eq_false_iff]
      by_cases h1 : x = i
      · right; simp; omega
      · left; simp; omega
    rw [this]
    simp
/-- The diagonal, so far. -/
def dg (n : Nat) : Nat → Nat → Bool := fun x y => decide (x = y) && decide (x < n)
theorem dg_succ (n : Nat) : ∀ x y, mset (dg n) n n x y = dg (n + 1) x y := fun x y => by
  by_cases he : x = n ∧ y = n
  · obtain ⟨rfl, rfl⟩ := he
    rw [mset_at]; simp [dg]
  · rw [mset_off _ he]
    unfold dg
    by_cases hxy : x = y
    · have : x ≠ n := fun h => he ⟨h, hxy ▸ h⟩
      simp only [hxy, decide_true, Bool.true_and, decide_eq_decide]
      omega
    · simp [hxy]
theorem dg_five : ∀ x y, x < 5 → y < 5 → dg 5 x y = edge [] x y := fun x y hx _ => by simp [dg, edge, hx]

/-- All ways as cells. -/
def wayCells (l : List W4) : List Value := (List.range 25).map fun j => .bool (way l (j / 5) (j % 5))
theorem way_one (l : List W4) : (wayCells l).toArray.all (·.oneCell') = true := all_oneCell_toArray fun v hv => by
  obtain ⟨x, _, rfl⟩ := List.mem_map.1 hv
  rfl
theorem Mx.range {w : World} {b : Nat} {l : List W4} (h : Mx w b (pm (edge l) 5)) : w.rangeAt b 0 (wayCells l) := fun j v hv => by
  have hj : j < 25 := by
    have := (List.getElem?_eq_some_iff.1 hv).1
    simpa [wayCells] using this
  have hv' : v = .bool (way l (j / 5) (j % 5)) := by
    simp only [wayCells, List.getElem?_map, List.getElem?_range hj, Option.map_some, Option.some.injEq] at hv
    exact hv.symm
  have := (h (j / 5) (j % 5) (by omega) (by omega)).1
  rw [show j / 5 * 5 + j % 5 = j by omega] at this
  rw [Nat.zero_add, hv', this]
  rfl
theorem Mx.there {w : World} {b : Nat} {M : Nat → Nat → Bool} (h : Mx w b M) : w.there b 0 25 := fun j hj => by
  have := h (j / 5) (j % 5) (by omega) (by omega)
  rw [show j / 5 * 5 + j % 5 = j by omega] at this
  rw [Nat.zero_add]
  exact ⟨by rw [this.1]; rfl, this.2⟩
theorem below_cells {B : Nat} {w0 w : World} (h : Below B w0 w) {b : Nat} (hb : B ≤ b) : ∀ (vs : List Value) (o : Nat), Below B w0 (w.setCells b o vs) := fun vs => by
  revert w
  induction vs with
  | nil => intro w h o; exact h
  | cons v r ih => intro w h o; exact ih (h.setCell (p := ⟨b, o, none⟩) hb v) (o + 1)
/-- One result that lies in memory. -/
theorem results_cell {P : Program} {fn : Func} {tmps : Array Value} {w : World} {s : Nat} {t : TypeId} {ad : Addr} {v : Value} (hf : fn.results = #[.cell s t]) (ha : tmps.getD s undef = .pointer (some ad)) (hl : (loadVar t ad).run P w = .ok v w) : (results fn tmps).run P w = .ok v w := by
  unfold results
  rw [hf]
  have e : ∀ f : ResultVar → Sem Value, Array.mapM f #[ResultVar.cell s t] = (do let x ← f (.cell s t); pure #[x]) := fun f => by simp [Array.mapM_eq_mapM_toList]
  rw [e]
  simp only [ha, asAddr, Sem.run_bind, Sem.run_pure, Result.andThen_ok, hl]
  simp
theorem five {P : Nat → Prop} (h0 : P 0) (h1 : P 1) (h2 : P 2) (h3 : P 3) (h4 : P 4) : ∀ x, x < 5 → P x
  | 0, _ => h0
  | 1, _ => h1
  | 2, _ => h2
  | 3, _ => h3
  | 4, _ => h4
  | n + 5, h => by omega
end Go.Proofs.YtajfgmlockjmhafDoor
namespace Go.Proofs.YtajfgmlockjmhafDoor
open Go.RowKit

/-- append onto a row that the call owns: the run, and where the new row lies. -/
theorem run_append_at {P : Program} (w : World) (t ty : TypeId) (base : Nat) (e : TypeId) (i : TypeInfo) (z : Value) (size bytes : Nat) (ht : P.underlying t = some (.slice e)) (hi : P.info? e = some i) (hz : i.zero = some z)
    (hsize : i.size = size) (hby : i.bytes = bytes) (hzs : z.cells.size = size) (hsz : 0 < size) (v : Value) (n : Nat) (xs : List Value) (hown : w.ownsRow base e size v n xs)
    (ad : Addr) (m c : Nat) (news : List Value) (hl : news.length = m * size) (hnews : ∀ j u, news[j]? = some u → w.cell? (ad.add j) = some u) (h1 : ∀ u ∈ news, u.oneCell' = true)
    (h63 : n + m ≤ maxLen) (hbytes : (n + m) * bytes ≤ 140737488355328) (hbase : base ≤ w.heap.size) :
    ∃ v' w', (Builtin.append_ #[t, t] ty #[v, .slice (some ad) m c]).run P w = .ok v' w' ∧ w'.ownsRow base e size v' (n + m) (xs ++ news) ∧ w.grownBy w' v.ownBlock ∧ (∀ k, v'.ownBlock = some k → v.ownBlock = some k ∨ w.heap.size ≤ k) := by
  obtain ⟨v', w', hr, h2, h3, h4⟩ := run_append_own (P := P) w base t ty e i z size bytes ht hi hz hsize hby hzs hsz v n xs hown ad m c news hl hnews h1 h63 hbytes hbase
  refine ⟨v', w', hr, h2, h3, ?_⟩
  have h63' : n + m ≤ 9223372036854775807 := by simpa [maxLen] using h63
  subst hsize
  subst hby
  intro k hk
  rcases hown.2 with ⟨rfl, rfl⟩ | ⟨g, cap, cur, rfl, hbg, hg, hnc, hcm, hcs, htake⟩
  · by_cases hm : m = 0
    · rw [h4.2 ⟨rfl, hm⟩] at hk
      cases hk
    · have hr2 := run_append_nil (P := P) w t ty e i z ht hi hz ad m c news hl hnews (by omega) (by omega) (by have hb := hbytes; simp only [Nat.zero_add] at hb; omega)
      rw [hr] at hr2
      injection hr2 with e1 e2
      subst e1
      simp only [Value.ownBlock, Option.some.injEq] at hk
      right
      omega
  · by_cases hroom : n + m ≤ cap
    · have hfit : n * i.size + news.length ≤ cur.size := by rw [hl, hcs, ← Nat.add_mul]; exact Nat.mul_le_mul_right _ hroom
      have hr2 := run_append_room (P := P) w t ty e i ht hi g n cap cur hg ad m c news hl hnews h1 hroom hfit
      rw [hr] at hr2
      injection hr2 with e1 e2
      subst e1
      left
      exact hk
    · have holds : ∀ j u, xs[j]? = some u → w.cell? ((⟨g, 0, none⟩ : Addr).add j) = some u := hown.cells (g := g) rfl
      have hr2 := run_append_grow (P := P) w t ty e i z ht hi hz ⟨g, 0, none⟩ n cap xs hown.1 holds ad m c news hl hnews (by omega) (by omega) (growslice_fits (by omega) hbytes)
      rw [hr] at hr2
      injection hr2 with e1 e2
      subst e1
      simp only [Value.ownBlock, Option.some.injEq] at hk
      right
      omega
/-- append, by its run, as one step of a region that draws. -/
theorem step_append_eq {P : Program} {ops : Array Oper} {o : Oper} {a : Act} {w : World} {K : Act → World → Prop} {Q : Exit → Act → World → Prop} {E : Prop}
    (hg : o.guard = none) (s x : Operand) (t : TypeId) (hop : o.op = Op.call { callee := Callee.builtin Builtin.append, args := #[s, x], argTypes := #[t, t] })
    (v1 v2 : Value) (hs : a.eval s = v1) (hx : a.eval x = v2) (v' : Value) (w' : World) (hr : (Builtin.append_ #[t, t] o.type #[v1, v2]).run P w = .ok v' w') (hK : K (a.put o.dst v') w') :
    if Region.wanted o (yielded ops a.tmps) = true then Oper.wp P o a w K Q else E := by
  have hw : Region.wanted o (yielded ops a.tmps) = true := by simp [Region.wanted, hg]
  rw [if_pos hw]
  unfold Oper.wp execOp
  simp only [hop, resolve, invoke, builtin, Sem.run_bind, Sem.run_pure, Result.andThen_ok, List.map_toArray, List.map_cons, List.map_nil, hs, hx, hr]
  exact hK
end Go.Proofs.YtajfgmlockjmhafDoor
namespace Go.Proofs.YtajfgmlockjmhafDoor

/-- A span: From, To, Room. -/
abbrev S3 := Int × Int × Int
def spOk (n : Int) (s : S3) : Bool := decide (0 ≤ s.1 ∧ s.1 < s.2.1 ∧ s.2.1 ≤ n ∧ 0 ≤ s.2.2 ∧ s.2.2 < 5)
/-- Two share a tick. -/
def clashB (s o : S3) : Bool := decide (o.1 < s.2.1 ∧ s.1 < o.2.1)
/-- What is wrong with the span at a place. -/
def badOf (n : Int) (l : List S3) (s : S3) : Int := if spOk n s = true then (if l.any (clashB s) = true then 7 else 0) else 1
def badAt (n : Int) (l : List S3) (i : Nat) : Int := match l[i]? with
  | none => 0
  | some s => badOf n (l.take i) s
def scan (p : Nat → Int) : Nat → Nat → Int × Int
  | 0, _ => (0, 0)
  | m + 1, i => if p i = 0 then scan p m (i + 1) else ((i : Int), p i)
/-- Which span is wrong, and how. -/
def fchk (n : Int) (l : List S3) : Int × Int := if n < 1 ∨ 40 < n then (0, 1) else if 12 < l.length then (0, 4) else scan (badAt n l) l.length 0

theorem badAt_some {n : Int} {l : List S3} {i : Nat} {s : S3} (h : l[i]? = some s) : badAt n l i = badOf n (l.take i) s := by unfold badAt; rw [h]
theorem scan_zero {p : Nat → Int} : ∀ {m i : Nat}, (∀ j, i ≤ j → j < i + m → p j = 0) → scan p m i = (0, 0)
  | 0, _, _ => rfl
  | m + 1, i, h => by
    unfold scan
    rw [if_pos (h i (Nat.le_refl _) (by omega))]
    exact scan_zero fun j h1 h2 => h j (by omega) (by omega)
theorem scan_all {p : Nat → Int} : ∀ {m i : Nat}, (scan p m i).2 = 0 → ∀ j, i ≤ j → j < i + m → p j = 0
  | 0, _, _, j, h1, h2 => by omega
  | m + 1, i, h, j, h1, h2 => by
    unfold scan at h
    split at h
    · rename_i h0
      by_cases hj : j = i
      · subst hj; exact h0
      · exact scan_all h j (by omega) (by omega)
    · rename_i h0
      exact absurd h h0
theorem scan_step {p : Nat → Int} {m i : Nat} {x : Int × Int} (hi : i < m) (h : scan p m 0 = scan p (m - i) i) (h0 : p i = 0) (e : scan p m 0 = x) : scan p (m - (i + 1)) (i + 1) = x := by
  rw [← e, h, show m - i = (m - (i + 1)) + 1 by omega]
  conv => rhs; unfold scan
  rw [if_pos h0]
theorem scan_next {p : Nat → Int} {m i : Nat} (hi : i < m) (h : scan p m 0 = scan p (m - i) i) (h0 : p i = 0) : scan p m 0 = scan p (m - (i + 1)) (i + 1) :=
  (scan_step hi h h0 rfl).symm
theorem scan_hit {p : Nat → Int} {m i : Nat} (hi : i < m) (h : scan p m 0 = scan p (m - i) i) (h0 : p i ≠ 0) : scan p m 0 = ((i : Int), p i) := by
  rw [h, show m - i = (m - (i + 1)) + 1 by omega]
  unfold scan
  rw [if_neg h0]
theorem scan_end {p : Nat → Int} {m : Nat} (h : scan p m 0 = scan p (m - m) m) : scan p m 0 = (0, 0) := by
  rw [h, Nat.sub_self]
  rfl
theorem scan_fst {p : Nat → Int} : ∀ {m i : Nat}, (scan p m i).2 = 0 → scan p m i = (0, 0) := fun h => scan_zero (scan_all h)

theorem fchk_lo {n : Int} {l : List S3} (h : n < 1 ∨ 40 < n) : fchk n l = (0, 1) := by unfold fchk; rw [if_pos h]
theorem fchk_long {n : Int} {l : List S3} (h : ¬ (n < 1 ∨ 40 < n)) (hl : 12 < l.length) : fchk n l = (0, 4) := by unfold fchk; rw [if_neg h, if_pos hl]
theorem fchk_mid {n : Int} {l : List S3} (h : ¬ (n < 1 ∨ 40 < n)) (hl : ¬ 12 < l.length) : fchk n l = scan (badAt n l) l.length 0 := by unfold fchk; rw [if_neg h, if_neg hl]
theorem fchk_zero {n : Int} {l : List S3} (h : (fchk n l).2 = 0) : 1 ≤ n ∧ n ≤ 40 ∧ l.length ≤ 12 ∧ (∀ s ∈ l, spOk n s = true) ∧ fchk n l = (0, 0) := by
  by_cases h1 : n < 1 ∨ 40 < n
  · rw [fchk_lo h1] at h; simp at h
  by_cases h2 : 12 < l.length
  · rw [fchk_long h1 h2] at h; simp at h
  rw [fchk_mid h1 h2] at h ⊢
  refine ⟨by omega, by omega, by omega, fun s hs => ?_, scan_fst h⟩
  obtain ⟨i, hi, rfl⟩ := List.getElem_of_mem hs
  have := scan_all h i (Nat.zero_le _) (by omega)
  rw [badAt_some (List.getElem?_eq_getElem hi)] at this
  unfold badOf at this
  split at this
  · assumption
  · simp at this

/-- A span has a tick. -/
def hits (t : Int) (s : S3) : Bool := decide (s.1 ≤ t ∧ t < s.2.1)
/-- Who has a tick of one frame; -1: none. -/
def hold : List S3 → Int → Int
  | [], _ => -1
  | s :: l, t => if hits t s = true then s.2.2 else hold l t
/-- At which place a span lies that has the tick; -1: none. -/
def hidx (l : List S3) (t : Int) : Int := match l.findIdx? (hits t) with | some i => i | none => -1
theorem hold_some : ∀ {l : List S3} {t : Int} {i : Nat} {s : S3}, l.findIdx? (hits t) = some i → l[i]? = some s → hold l t = s.2.2
  | [], _, _, _, h, _ => by simp at h
  | x :: l, t, i, s, h, hs => by
    rw [List.findIdx?_cons] at h
    unfold hold
    split at h
    · rename_i hx
      simp at h
      subst h
      simp at hs
      subst hs
      rw [if_pos hx]
    · rename_i hx
      rw [if_neg (by simpa using hx)]
      simp only [Option.map_eq_some_iff] at h
      obtain ⟨k, hk, rfl⟩ := h
      exact hold_some hk (by simpa using hs)
theorem hold_none : ∀ {l : List S3} {t : Int}, l.findIdx? (hits t) = none → hold l t = -1
  | [], _, _ => rfl
  | x :: l, t, h => by
    rw [List.findIdx?_eq_none_iff] at h
    unfold hold
    rw [if_neg (by simp [h x (by simp)])]
    exact hold_none (by rw [List.findIdx?_eq_none_iff]; intro y hy; exact h y (by simp [hy]))
theorem hold_range {n : Int} : ∀ {l : List S3} {t : Int}, (∀ s ∈ l, spOk n s = true) → -1 ≤ hold l t ∧ hold l t < 5
  | [], _, _ => by simp [hold]
  | x :: l, t, h => by
    unfold hold
    split
    · have := h x (by simp)
      simp only [spOk, decide_eq_true_eq] at this
      omega
    · exact hold_range (fun s hs => h s (by simp [hs]))
theorem hold_drop {l : List S3} {t : Int} {k : Nat} {s : S3} (hk : l[k]? = some s) : hold (l.drop k) t = if hits t s = true then s.2.2 else hold (l.drop (k + 1)) t := by
  obtain ⟨h, rfl⟩ := List.getElem?_eq_some_iff.1 hk
  rw [List.drop_eq_getElem_cons h]
  rfl

/-- How many of the first ticks a room has. -/
def cnt (h : Nat → Int) (r : Int) : Nat → Nat
  | 0 => 0
  | t + 1 => cnt h r t + if h t = r then 1 else 0
theorem cnt_le (h : Nat → Int) (r : Int) : ∀ t, cnt h r t ≤ t
  | 0 => Nat.le_refl _
  | t + 1 => by have := cnt_le h r t; unfold cnt; split <;> omega
theorem cnt_zero (h : Nat → Int) (r : Int) : ∀ t, cnt h r t = 0 ↔ ∀ j, j < t → h j ≠ r
  | 0 => by simp [cnt]
  | t + 1 => by
    unfold cnt
    constructor
    · intro h0 j hj
      by_cases he : h t = r
      · rw [if_pos he] at h0; omega
      · rw [if_neg he] at h0
        by_cases hjt : j = t
        · subst hjt; exact he
        · exact (cnt_zero h r t).1 (by omega) j (by omega)
    · intro h0
      rw [if_neg (h0 t (by omega)), (cnt_zero h r t).2 (fun j hj => h0 j (by omega))]
theorem cnt_sum (h : Nat → Int) : ∀ t, cnt h 0 t + cnt h 1 t + cnt h 2 t + cnt h 3 t + cnt h 4 t ≤ t
  | 0 => by simp [cnt]
  | t + 1 => by
    have := cnt_sum h t
    unfold cnt
    by_cases h0 : h t = 0
    · simp [h0]; omega
    by_cases h1 : h t = 1
    · simp [h1]; omega
    by_cases h2 : h t = 2
    · simp [h2]; omega
    by_cases h3 : h t = 3
    · simp [h3]; omega
    by_cases h4 : h t = 4
    · simp [h4]; omega
    · simp [h0, h1, h2, h3, h4]; omega
theorem cnt_up {h : Nat → Int} {r : Int} {t : Nat} (e : h t = r) : cnt h r (t + 1) = cnt h r t + 1 := by simp [cnt, e]
theorem cnt_same {h : Nat → Int} {r : Int} {t : Nat} (e : h t ≠ r) : cnt h r (t + 1) = cnt h r t := by simp [cnt, e]

/-- The widest way so far, and the last tick that was had. -/
def gf (p : Nat → Bool) : Nat → Int × Int
  | 0 => (0, -1)
  | t + 1 => if p t = true then (if 0 ≤ (gf p t).2 then max (gf p t).1 ((t : Int) - (gf p t).2) else (gf p t).1, (t : Int)) else gf p t
theorem gf_hit {p : Nat → Bool} {t : Nat} (h : p t = true) : gf p (t + 1) = (if 0 ≤ (gf p t).2 then max (gf p t).1 ((t : Int) - (gf p t).2) else (gf p t).1, (t : Int)) := by
  conv => lhs; unfold gf
  rw [if_pos h]
theorem gf_miss {p : Nat → Bool} {t : Nat} (h : p t = false) : gf p (t + 1) = gf p t := by
  conv => lhs; unfold gf
  rw [if_neg (by simp [h])]
/-- A tick that is had, and the next one. -/
def Pair (p : Nat → Bool) (i k : Nat) : Prop := p i = true ∧ p k = true ∧ i < k ∧ ∀ j, i < j → j < k → p j = false
theorem gf_last (p : Nat → Bool) : ∀ t, ((gf p t).2 = -1 ∧ ∀ j, j < t → p j = false) ∨ ∃ a : Nat, (gf p t).2 = a ∧ a < t ∧ p a = true ∧ ∀ j, a < j → j < t → p j = false
  | 0 => Or.inl ⟨rfl, fun j hj => by omega⟩
  | t + 1 => by
    cases hp : p t with
    | true =>
      rw [gf_hit hp]
      exact Or.inr ⟨t, rfl, by omega, hp, fun j h1 h2 => by omega⟩
    | false =>
      rw [gf_miss hp]
      rcases gf_last p t with ⟨h0, h1⟩ | ⟨a, h0, h1, h2, h3⟩
      · refine Or.inl ⟨h0, fun j hj => ?_⟩
        by_cases hjt : j = t
        · subst hjt; exact hp
        · exact h1 j (by omega)
      · refine Or.inr ⟨a, h0, by omega, h2, fun j h4 h5 => ?_⟩
        by_cases hjt : j = t
        · subst hjt; exact hp
        · exact h3 j h4 (by omega)
theorem gf_bound (p : Nat → Bool) (t : Nat) : 0 ≤ (gf p t).1 ∧ (gf p t).1 ≤ t ∧ -1 ≤ (gf p t).2 ∧ (gf p t).2 < t := by
  induction t with
  | zero => simp [gf]
  | succ t ih =>
    cases hp : p t with
    | true =>
      rw [gf_hit hp]
      simp only
      split <;> omega
    | false => rw [gf_miss hp]; omega
theorem gf_most (p : Nat → Bool) : ∀ t, (∀ i k, Pair p i k → k < t → (k : Int) - i ≤ (gf p t).1) ∧ ((gf p t).1 = 0 ∨ ∃ i k, Pair p i k ∧ k < t ∧ (gf p t).1 = (k : Int) - i)
  | 0 => ⟨fun i k _ h => by omega, Or.inl rfl⟩
  | t + 1 => by
    obtain ⟨h1, h2⟩ := gf_most p t
    cases hp : p t with
    | false =>
      rw [gf_miss hp]
      refine ⟨fun i k hk hlt => ?_, ?_⟩
      · by_cases hkt : k = t
        · subst hkt; rw [hk.2.1] at hp; cases hp
        · exact h1 i k hk (by omega)
      · rcases h2 with h2 | ⟨i, k, hk, hlt, he⟩
        · exact Or.inl h2
        · exact Or.inr ⟨i, k, hk, by omega, he⟩
    | true =>
      rw [gf_hit hp]
      simp only
      rcases gf_last p t with ⟨l0, l1⟩ | ⟨a, l0, l1, l2, l3⟩
      · rw [if_neg (by rw [l0]; decide)]
        refine ⟨fun i k hk hlt => ?_, ?_⟩
        · have := l1 i (by have := hk.2.2.1; omega)
          rw [hk.1] at this; cases this
        · rcases h2 with h2 | ⟨i, k, hk, hlt, he⟩
          · exact Or.inl h2
          · exact Or.inr ⟨i, k, hk, by omega, he⟩
      · rw [l0, if_pos (by omega)]
        have hpair : Pair p a t := ⟨l2, hp, l1, l3⟩
        refine ⟨fun i k hk hlt => ?_, ?_⟩
        · by_cases hkt : k = t
          · subst hkt
            have hia : i = a := by
              rcases Nat.lt_trichotomy i a with h | h | h
              · have := hk.2.2.2 a h l1; rw [l2] at this; cases this
              · exact h
              · have := l3 i h hk.2.2.1; rw [hk.1] at this; cases this
            subst hia
            omega
          · have := h1 i k hk (by omega)
            omega
        · rcases Int.le_total (gf p t).1 ((t : Int) - a) with h | h
          · rw [Int.max_eq_right h]
            exact Or.inr ⟨a, t, hpair, by omega, rfl⟩
          · rw [Int.max_eq_left h]
            rcases h2 with h2 | ⟨i, k, hk, hlt, he⟩
            · exact Or.inl h2
            · exact Or.inr ⟨i, k, hk, by omega, he⟩

theorem first_from {p : Nat → Bool} : ∀ (d a : Nat), p (a + d) = true → ∃ k, a ≤ k ∧ k ≤ a + d ∧ p k = true ∧ ∀ j, a ≤ j → j < k → p j = false
  | 0, a, h => ⟨a, by omega, by omega, h, fun j h1 h2 => by omega⟩
  | d + 1, a, h => by
    cases ha : p a with
    | true => exact ⟨a, by omega, by omega, ha, fun j h1 h2 => by omega⟩
    | false =>
      obtain ⟨k, h1, h2, h3, h4⟩ := first_from d (a + 1) (by rw [show a + 1 + d = a + (d + 1) by omega]; exact h)
      refine ⟨k, by omega, by omega, h3, fun j h5 h6 => ?_⟩
      by_cases hja : j = a
      · subst hja; exact ha
      · exact h4 j (by omega) h6
theorem last_to {p : Nat → Bool} : ∀ (d a : Nat), p a = true → ∃ k, a ≤ k ∧ k ≤ a + d ∧ p k = true ∧ ∀ j, k < j → j ≤ a + d → p j = false
  | 0, a, h => ⟨a, by omega, by omega, h, fun j h1 h2 => by omega⟩
  | d + 1, a, h => by
    cases hb : p (a + (d + 1)) with
    | true => exact ⟨a + (d + 1), by omega, by omega, hb, fun j h1 h2 => by omega⟩
    | false =>
      obtain ⟨k, h1, h2, h3, h4⟩ := last_to d a h
      refine ⟨k, by omega, by omega, h3, fun j h5 h6 => ?_⟩
      by_cases hja : j = a + (d + 1)
      · subst hja; exact hb
      · exact h4 j h5 (by omega)

/-- Again and again. -/
def Per (p : Nat → Bool) (n : Nat) : Prop := ∀ t, p (t + n) = p t
theorem Per.mul {p : Nat → Bool} {n : Nat} (h : Per p n) (t : Nat) : ∀ q, p (t + n * q) = p t
  | 0 => by simp
  | q + 1 => by rw [Nat.mul_succ, ← Nat.add_assoc, h, h.mul t q]
theorem Per.mod {p : Nat → Bool} {n : Nat} (h : Per p n) (t : Nat) : p (t % n) = p t := by
  conv => rhs; rw [← Nat.mod_add_div t n]
  rw [h.mul]
theorem Pair.le {p : Nat → Bool} {n i k : Nat} (hn : 0 < n) (h : Per p n) (hp : Pair p i k) : k ≤ i + n := by
  rcases Nat.lt_or_ge (i + n) k with h1 | h1
  · have := hp.2.2.2 (i + n) (by omega) h1
    rw [h, hp.1] at this; cases this
  · exact h1
theorem Pair.shift {p : Nat → Bool} {n i k : Nat} (h : Per p n) (hp : Pair p i k) : Pair p (i + n) (k + n) :=
  ⟨by rw [h]; exact hp.1, by rw [h]; exact hp.2.1, by have := hp.2.2.1; omega, fun j h1 h2 => by
    rw [show j = (j - n) + n by omega, h]
    exact hp.2.2.2 (j - n) (by omega) (by omega)⟩
theorem Pair.back {p : Nat → Bool} {n i k : Nat} (h : Per p n) (hp : Pair p (i + n) (k + n)) : Pair p i k :=
  ⟨by rw [← h]; exact hp.1, by rw [← h]; exact hp.2.1, by have := hp.2.2.1; omega, fun j h1 h2 => by
    rw [← h]
    exact hp.2.2.2 (j + n) (by omega) (by omega)⟩
theorem Pair.low {p : Nat → Bool} {n : Nat} (hn : 0 < n) (h : Per p n) : ∀ (i k : Nat), Pair p i k → ∃ i' k', Pair p i' k' ∧ i' < n ∧ (k' : Int) - i' = (k : Int) - i := fun i => by
  induction i using Nat.strongRecOn with
  | ind i ih =>
    intro k hp
    by_cases hi : i < n
    · exact ⟨i, k, hp, hi, rfl⟩
    · have hk := hp.2.2.1
      have hp' : Pair p (i - n) (k - n) := by
        apply Pair.back h
        rw [show i - n + n = i by omega, show k - n + n = k by omega]
        exact hp
      obtain ⟨i', k', h1, h2, h3⟩ := ih (i - n) (by omega) (k - n) hp'
      exact ⟨i', k', h1, h2, by omega⟩
/-- The gap. -/
def gap (p : Nat → Bool) (n : Nat) : Int := (gf p (2 * n)).1
/-- What the loop over one frame holds. -/
def Wide (p : Nat → Bool) (t : Nat) (m : Int) : Prop := (∀ i k, Pair p i k → i < t → (k : Int) - i ≤ m) ∧ (m = 0 ∨ ∃ i k, Pair p i k ∧ i < t ∧ m = (k : Int) - i)
theorem Wide.zero (p : Nat → Bool) : Wide p 0 0 := ⟨fun i k _ h => by omega, Or.inl rfl⟩
theorem gap_most {p : Nat → Bool} {n : Nat} (hn : 0 < n) (h : Per p n) : ∀ i k, Pair p i k → (k : Int) - i ≤ gap p n := fun i k hp => by
  obtain ⟨i', k', h1, h2, h3⟩ := Pair.low hn h i k hp
  rw [← h3]
  exact (gf_most p (2 * n)).1 i' k' h1 (by have := h1.le hn h; omega)
theorem gap_wide {p : Nat → Bool} {n : Nat} {m : Int} (hn : 0 < n) (h : Per p n) (hw : Wide p n m) (hm : 0 ≤ m) : m = gap p n := by
  have hb := gf_bound p (2 * n)
  apply Int.le_antisymm
  · rcases hw.2 with h0 | ⟨i, k, hp, hi, he⟩
    · rw [h0]; exact hb.1
    · rw [he]; exact gap_most hn h i k hp
  · rcases (gf_most p (2 * n)).2 with h0 | ⟨i, k, hp, hi, he⟩
    · unfold gap; rw [h0]; exact hm
    · unfold gap
      rw [he]
      obtain ⟨i', k', h1, h2, h3⟩ := Pair.low hn h i k hp
      rw [← h3]
      exact hw.1 i' k' h1 h2
theorem Wide.miss {p : Nat → Bool} {t : Nat} {m : Int} (h : Wide p t m) (hp : p t = false) : Wide p (t + 1) m := by
  refine ⟨fun i k hk hi => ?_, ?_⟩
  · by_cases hit : i = t
    · subst hit; rw [hk.1] at hp; cases hp
    · exact h.1 i k hk (by omega)
  · rcases h.2 with h0 | ⟨i, k, hk, hi, he⟩
    · exact Or.inl h0
    · exact Or.inr ⟨i, k, hk, by omega, he⟩
theorem Pair.same {p : Nat → Bool} {i k k' : Nat} (h : Pair p i k) (h' : Pair p i k') : k = k' := by
  rcases Nat.lt_trichotomy k k' with h1 | h1 | h1
  · have := h'.2.2.2 k h.2.2.1 h1; rw [h.2.1] at this; cases this
  · exact h1
  · have := h.2.2.2 k' h'.2.2.1 h1; rw [h'.2.1] at this; cases this
theorem Wide.more {p : Nat → Bool} {t k : Nat} {m : Int} (h : Wide p t m) (hp : Pair p t k) (hg : m < (k : Int) - t) : Wide p (t + 1) ((k : Int) - t) := by
  refine ⟨fun i k' hk hi => ?_, Or.inr ⟨t, k, hp, by omega, rfl⟩⟩
  by_cases hit : i = t
  · subst hit
    rw [hp.same hk]
    exact Int.le_refl _
  · have := h.1 i k' hk (by omega)
    omega
theorem Wide.less {p : Nat → Bool} {t k : Nat} {m : Int} (h : Wide p t m) (hp : Pair p t k) (hg : ¬ m < (k : Int) - t) : Wide p (t + 1) m := by
  refine ⟨fun i k' hk hi => ?_, ?_⟩
  · by_cases hit : i = t
    · subst hit
      rw [← hp.same hk]
      omega
    · exact h.1 i k' hk (by omega)
  · rcases h.2 with h0 | ⟨i, k, hk, hi, he⟩
    · exact Or.inl h0
    · exact Or.inr ⟨i, k, hk, by omega, he⟩
theorem pair_ex {p : Nat → Bool} {n i : Nat} (hn : 0 < n) (h : Per p n) (hp : p i = true) : ∃ k, Pair p i k := by
  obtain ⟨k, h1, h2, h3, h4⟩ := first_from (p := p) (n - 1) (i + 1) (by rw [show i + 1 + (n - 1) = i + n by omega, h]; exact hp)
  exact ⟨k, hp, h3, by omega, fun j h5 h6 => h4 j (by omega) h6⟩
theorem gap_le {p : Nat → Bool} {n : Nat} (hn : 0 < n) (h : Per p n) : gap p n ≤ n := by
  rcases (gf_most p (2 * n)).2 with h0 | ⟨i, k, hp, hi, he⟩
  · unfold gap; rw [h0]; omega
  · unfold gap
    rw [he]
    have := hp.le hn h
    omega
theorem gap_pos {p : Nat → Bool} {n i : Nat} (hn : 0 < n) (h : Per p n) (hp : p i = true) : 1 ≤ gap p n := by
  obtain ⟨k, hk⟩ := pair_ex hn h hp
  have h1 := gap_most hn h i k hk
  have h2 := hk.2.2.1
  omega
theorem gap_none {p : Nat → Bool} {n : Nat} (hn : 0 < n) (h : Per p n) (hp : ∀ j, j < n → p j = false) : gap p n = 0 := by
  rcases (gf_most p (2 * n)).2 with h0 | ⟨i, k, hk, hi, he⟩
  · exact h0
  · have := hp (i % n) (Nat.mod_lt _ hn)
    rw [h.mod, hk.1] at this; cases this
theorem gap_in {p : Nat → Bool} {n i : Nat} (hn : 0 < n) (h : Per p n) (hp : p i = true) (t : Nat) : ∃ k : Nat, (k : Int) < gap p n ∧ p (t + k) = true := by
  -- a tick that is had, behind t - n, not behind t
  have hin : p (i % n) = true := by rw [h.mod]; exact hp
  have hlt := Nat.mod_lt i hn
  obtain ⟨a, a1, a2, a3, a4⟩ := last_to (p := p) (t + n - 1 - i % n) (i % n) hin
  have hend : i % n + (t + n - 1 - i % n) = t + n - 1 := by omega
  rw [hend] at a2 a4
  obtain ⟨k, hk⟩ := pair_ex hn h a3
  have hg := gap_most hn h a k hk
  have hk1 := hk.2.2.1
  have hk2 : t + n ≤ k := by
    rcases Nat.lt_or_ge k (t + n) with h1 | h1
    · have := a4 k hk1 (by omega)
      rw [hk.2.1] at this; cases this
    · exact h1
  refine ⟨k - (t + n), by omega, ?_⟩
  rw [← h]
  rw [show t + (k - (t + n)) + n = k by omega]
  exact hk.2.1

/-- Whether a room has a tick, of any frame. -/
def had (l : List S3) (n : Nat) (r : Int) (t : Nat) : Bool := decide (hold l ((t % n : Nat) : Int) = r)
theorem had_per (l : List S3) (n : Nat) (r : Int) : Per (had l n r) n := fun t => by unfold had; rw [Nat.add_mod_right]
theorem had_cnt {l : List S3} {n : Nat} {r : Int} : cnt (fun t => hold l (t : Int)) r n = 0 ↔ ∀ j, j < n → had l n r j = false := by
  rw [cnt_zero]
  constructor
  · intro h j hj
    unfold had
    rw [Nat.mod_eq_of_lt hj]
    exact decide_eq_false (h j hj)
  · intro h j hj
    have := h j hj
    unfold had at this
    rw [Nat.mod_eq_of_lt hj] at this
    simpa using this
theorem badOf_range {n : Int} {l : List S3} {s : S3} (h : spOk n s = false) : badOf n l s = 1 := by unfold badOf; rw [if_neg (by simp [h])]
theorem badOf_clash {n : Int} {l : List S3} {s : S3} (h : spOk n s = true) (hc : l.any (clashB s) = true) : badOf n l s = 7 := by unfold badOf; rw [if_pos h, if_pos hc]
theorem badOf_none {n : Int} {l : List S3} {s : S3} (h : spOk n s = true) (hc : l.any (clashB s) = false) : badOf n l s = 0 := by unfold badOf; rw [if_pos h, if_neg (by simp [hc])]
end Go.Proofs.YtajfgmlockjmhafDoor
namespace Go.Proofs.YtajfgmlockjmhafDoor

theorem idx_cases (c : UInt8) : ∀ l : List UInt8, (c ∉ l ∧ Lib.indexByte l c = -1) ∨ ∃ u v, l = u ++ c :: v ∧ c ∉ u ∧ Lib.indexByte l c = (u.length : Int)
  | [] => Or.inl ⟨by simp, rfl⟩
  | b :: l => by
    by_cases h : b = c
    · exact Or.inr ⟨[], l, by simp [h], by simp, by simp [Lib.indexByte, h]⟩
    · have hb : (b == c) = false := by simpa using h
      rcases idx_cases c l with ⟨h1, h2⟩ | ⟨u, v, h1, h2, h3⟩
      · exact Or.inl ⟨by simp [h1, Ne.symm h], by simp [Lib.indexByte, hb, h2]⟩
      · refine Or.inr ⟨b :: u, v, by simp [h1], by simp [h2, Ne.symm h], ?_⟩
        have h4 : (Lib.indexByte l c == -1) = false := by rw [h3]; simp
        rw [Lib.indexByte, hb, h4, h3]
        simp

/-- The lines that are left, 'cur' the one begun. -/
def linesGo : List UInt8 → List UInt8 → List (List UInt8)
  | cur, [] => if cur = [] then [] else [cur]
  | cur, x :: xs => if x = 10 then (cur ++ [10]) :: linesGo [] xs else linesGo (cur ++ [x]) xs
def linesB (l : List UInt8) : List (List UInt8) := linesGo [] l
theorem linesGo_app : ∀ (u cur m : List UInt8), (10 : UInt8) ∉ u → linesGo cur (u ++ m) = linesGo (cur ++ u) m
  | [], cur, m, _ => by simp
  | x :: xs, cur, m, h => by
    have hx : x ≠ 10 := fun e => h (by simp [e])
    have hxs : (10 : UInt8) ∉ xs := fun e => h (by simp [e])
    rw [List.cons_append, linesGo, if_neg hx, linesGo_app xs _ m hxs]; simp
theorem lines_at {u : List UInt8} (v : List UInt8) (h : (10 : UInt8) ∉ u) : linesB (u ++ 10 :: v) = (u ++ [10]) :: linesB v := by
  unfold linesB
  rw [linesGo_app u [] _ h, linesGo, if_pos rfl]; rfl
theorem lines_end {u : List UInt8} (h : (10 : UInt8) ∉ u) (hne : u ≠ []) : linesB u = [u] := by
  have := linesGo_app u [] [] h
  unfold linesB
  rw [List.append_nil] at this
  rw [this, List.nil_append, linesGo, if_neg hne]
theorem lines_nil : linesB [] = [] := rfl
theorem linesGo_len : ∀ (l cur : List UInt8), (linesGo cur l).length ≤ l.length + 1 ∧ (cur = [] → (linesGo cur l).length ≤ l.length)
  | [], cur => by
    constructor
    · unfold linesGo; split <;> simp
    · intro h; simp [linesGo, h]
  | x :: xs, cur => by
    unfold linesGo
    split
    · have := (linesGo_len xs []).2 rfl; simp; omega
    · have := (linesGo_len xs (cur ++ [x])).1; simp; omega
theorem lines_len (l : List UInt8) : (linesB l).length ≤ l.length := (linesGo_len l []).2 rfl
end Go.Proofs.YtajfgmlockjmhafDoor
namespace Go.Proofs.YtajfgmlockjmhafDoor
open Go.RowKit

theorem fieldsEv : Tryd.prog.underlying 45 = some (.struct (Tryd.prog.fieldsOf 45)) := by kernel_rfl
theorem stoodEv : Tryd.prog.stoodInHeld 45 = false := by kernel_rfl
theorem fieldsEvIs : Tryd.prog.fieldsOf 45 = #[{ name := "Tick", type := 3, offset := 0, embedded := false, tag := "", pkgPath := "", byteOffset := 0 }, { name := "Room", type := 3, offset := 1, embedded := false, tag := "", pkgPath := "", byteOffset := 8 }, { name := "At", type := 3, offset := 2, embedded := false, tag := "", pkgPath := "", byteOffset := 16 }, { name := "What", type := 3, offset := 3, embedded := false, tag := "", pkgPath := "", byteOffset := 24 }] := by kernel_rfl
theorem eqIn_ev (a b c d : Int) (w : World) : (Op.equalIn 10000 45 (.agg #[.int .i64 a, .int .i64 b, .int .i64 c, .int .i64 d]) (.agg #[.int .i64 a, .int .i64 b, .int .i64 c, .int .i64 d])).run Tryd.prog w = .ok true w := by
  rw [run_equalIn_agg _ _ _ _ _ fieldsEv stoodEv, fieldsEvIs]
  simp [go_sem, Tryd.underlying3]
theorem eql_ev (a b c d : Int) (w : World) : (binOp .eql 45 (.agg #[.int .i64 a, .int .i64 b, .int .i64 c, .int .i64 d]) (.agg #[.int .i64 a, .int .i64 b, .int .i64 c, .int .i64 d])).run Tryd.prog w = .ok (.bool true) w := by
  rw [run_eql_struct, eqIn_ev]
  rfl
theorem neq_ev (a b c d : Int) (w : World) : (binOp .neq 45 (.agg #[.int .i64 a, .int .i64 b, .int .i64 c, .int .i64 d]) (.agg #[.int .i64 a, .int .i64 b, .int .i64 c, .int .i64 d])).run Tryd.prog w = .ok (.bool false) w := by
  rw [run_neq_struct, eqIn_ev]
  rfl
theorem guardEv : Tryd.prog.eqGuardType Tryd.prog.depth 45 = false := by kernel_rfl
end Go.Proofs.YtajfgmlockjmhafDoor
namespace Go.Proofs.YtajfgmlockjmhafDoor
open Go.RowKit

/-- Five in a block. -/
def Rw (w : World) (b : Nat) (M : Nat → Bool) : Prop := ∀ k, k < 5 → w.cell? ⟨b, k, none⟩ = some (.bool (M k)) ∧ w.frozen? ⟨b, k, none⟩ = false
/-- Five as a value. -/
def rwV (M : Nat → Bool) : Value := .agg #[.bool (M 0), .bool (M 1), .bool (M 2), .bool (M 3), .bool (M 4)]
def upto (k : Nat) (A B : Nat → Bool) : Nat → Bool := fun x => if x < k then (A x || B x) else A x
theorem upto_here (k : Nat) (A B : Nat → Bool) : upto k A B k = A k := by simp [upto]
theorem upto_zero (A B : Nat → Bool) : upto 0 A B = A := by funext x; simp [upto]
theorem upto_five (A B : Nat → Bool) {x : Nat} (h : x < 5) : upto 5 A B x = (A x || B x) := by simp [upto, h]
theorem Rw.set {w : World} {b : Nat} {M N : Nat → Bool} (h : Rw w b M) {k : Nat} {c : Bool} (hk : k < 5) (hc : N k = c) (hn : ∀ x, x ≠ k → N x = M x) : Rw (w.setCell ⟨b, k, none⟩ (.bool c)) b N := fun x hx => by
  obtain ⟨h1, h2⟩ := h x hx
  refine ⟨?_, (World.frozen?_setCell _ _ _ _).trans h2⟩
  by_cases he : x = k
  · subst he
    rw [hc]
    simp [go_sem, h1]
  · rw [hn x he, World.cell?_setCell_other _ _ _ _ (by intro e; injection e with _ e2; exact he e2.symm)]
    exact h1
theorem Rw.next {w : World} {b : Nat} {A B : Nat → Bool} {k : Nat} (h : Rw w b (upto k A B)) (hk : k < 5) {c : Bool} (hc : c = (A k || B k)) : Rw (w.setCell ⟨b, k, none⟩ (.bool c)) b (upto (k + 1) A B) :=
  h.set hk (by simp [upto, hc]) (fun x hx => by unfold upto; by_cases h1 : x < k; rw [if_pos (by omega), if_pos h1]; rw [if_neg (by omega), if_neg h1])
theorem Rw.apart {w : World} {b c : Nat} {M : Nat → Bool} (h : Rw w b M) (hne : b ≠ c) (i : Nat) (u : Value) : Rw (w.setCell ⟨c, i, none⟩ u) b M := fun x hx =>
  ⟨(World.cell?_of_block (w := w) (a := ⟨b, x, none⟩) (Below.heap_setCell _ _ _ _ hne)).trans (h x hx).1, (World.frozen?_setCell _ _ _ _).trans (h x hx).2⟩
theorem Rw.new (w : World) (M : Nat → Bool) (t : TypeId) : Rw (w.alloc (.cells #[.bool (M 0), .bool (M 1), .bool (M 2), .bool (M 3), .bool (M 4)] t)) w.heap.size M := by
  refine five ?_ ?_ ?_ ?_ ?_ <;> simp
theorem Rw.new_at {w : World} {b : Nat} (hb : b = w.heap.size) (M : Nat → Bool) (t : TypeId) : Rw (w.alloc (.cells #[.bool (M 0), .bool (M 1), .bool (M 2), .bool (M 3), .bool (M 4)] t)) b M := by
  subst hb
  exact Rw.new w M t
theorem Rw.alloc {w : World} {b : Nat} {M : Nat → Bool} (h : Rw w b M) (hb : b < w.heap.size) (o : Obj) : Rw (w.alloc o) b M := fun x hx => by
  have hB : Below w.heap.size w (w.alloc o) := (Below.refl _ _).alloc (Nat.le_refl _) _
  exact ⟨(hB.cell (p := ⟨b, _, none⟩) hb).trans (h x hx).1, (hB.frozen (p := ⟨b, _, none⟩) hb).trans (h x hx).2⟩
set_option maxRecDepth 100000 in
theorem index_row (M : Nat → Bool) : ∀ (k : Nat), k < 5 → ∀ w : World, (Instr.index 137 (.agg #[.bool (M 0), .bool (M 1), .bool (M 2), .bool (M 3), .bool (M 4)]) (.int .i64 (k : Int))).run Tryd.prog w = .ok (.bool (M k)) w := by
  refine five ?_ ?_ ?_ ?_ ?_ <;> exact fun _ => by kernel_rfl

set_option maxRecDepth 100000 in
set_option maxHeartbeats 4000000 in
theorem either_any (A B : Nat → Bool) (w : World) :
    Calls Tryd.prog 90 #[rwV A, rwV B] w fun e w' => e = .returned (rwV fun x => A x || B x) ∧ Below w.heap.size w w' := by
  unfold rwV
  go_enter Tryd.func90, Tryd.ntmps90
  go_wp2
  go_loopw [8] (fun i wr => ∃ k : Nat, k ≤ 5 ∧ i = .int .i64 k ∧ Rw wr w.heap.size (upto k A B) ∧ Rw wr (w.heap.size + 2) (fun _ => false) ∧ Below w.heap.size w wr ∧ w.heap.size + 3 ≤ wr.heap.size) (fun i _ => 5 - (intOf i).toNat)
  case atStart =>
    refine ⟨0, Nat.zero_le _, rfl, ?_, ?_, (((Below.refl _ _).alloc (Nat.le_refl _) _).alloc (by simp) _).alloc (by simp; omega) _, by simp⟩
    · rw [upto_zero]
      exact ((Rw.new w A 137).alloc (by simp) _).alloc (by simp; omega) _
    · exact Rw.new_at (by simp) (fun _ => false) 137
  case round =>
    obtain ⟨k, hk, rfl, hM, hZ, hB, hsz⟩ := hrel
    have HM : Hid (Rw wr w.heap.size (upto k A B)) := hM
    have HZ : Hid (Rw wr (w.heap.size + 2) (fun _ => false)) := hZ
    clear hM hZ
    by_cases hk5 : k < 5
    · have hki : (k : Int) < 5 := by omega
      have hix := index_row B k hk5
      obtain ⟨c, f⟩ := HM.out k hk5
      rw [upto_here] at c
      have hA : A k = true ∨ A k = false := by cases A k <;> simp
      rcases hA with hA | hA
      · rw [hA] at c
        have HC : Hid (true = (A k || B k)) := by show _ = _; rw [hA]; rfl
        clear hA
        go_wp2
        go_roundw
        case rel => exact ⟨k + 1, by omega, by go_num, HM.out.next hk5 HC.out, HZ.out.apart (by omega) _ _, hB.setCell (p := ⟨w.heap.size, _, none⟩) (Nat.le_refl _) _, by simpa using hsz⟩
        case measure => simp [intOf]; omega
      · rw [hA] at c
        have HC : Hid (B k = (A k || B k)) := by show _ = _; rw [hA]; rfl
        clear hA
        go_wp2
        go_roundw
        case rel => exact ⟨k + 1, by omega, by go_num, HM.out.next hk5 HC.out, HZ.out.apart (by omega) _ _, hB.setCell (p := ⟨w.heap.size, _, none⟩) (Nat.le_refl _) _, by simpa using hsz⟩
        case measure => simp [intOf]; omega
    · obtain rfl : k = 5 := by omega
      obtain ⟨c0, _⟩ := HM.out 0 (by omega)
      obtain ⟨c1, _⟩ := HM.out 1 (by omega)
      obtain ⟨c2, _⟩ := HM.out 2 (by omega)
      obtain ⟨c3, _⟩ := HM.out 3 (by omega)
      obtain ⟨c4, _⟩ := HM.out 4 (by omega)
      rw [upto_five _ _ (by omega)] at c0 c1 c2 c3 c4
      obtain ⟨d0, f0⟩ := HZ.out 0 (by omega)
      obtain ⟨d1, f1⟩ := HZ.out 1 (by omega)
      obtain ⟨d2, f2⟩ := HZ.out 2 (by omega)
      obtain ⟨d3, f3⟩ := HZ.out 3 (by omega)
      obtain ⟨d4, f4⟩ := HZ.out 4 (by omega)
      clear HM HZ
      go_wp2
      refine bodyPost_ret (v := .agg #[.bool (A 0 || B 0), .bool (A 1 || B 1), .bool (A 2 || B 2), .bool (A 3 || B 3), .bool (A 4 || B 4)]) ?_ rfl ⟨rfl, ?_⟩
      · simp [results, Tryd.results90, go_sem, d0, d1, d2, d3, d4]
      exact ((((hB.setCell (p := ⟨w.heap.size + 2, _, none⟩) (by simp) _).setCell (p := ⟨w.heap.size + 2, _, none⟩) (by simp) _).setCell (p := ⟨w.heap.size + 2, _, none⟩) (by simp) _).setCell (p := ⟨w.heap.size + 2, _, none⟩) (by simp) _).setCell (p := ⟨w.heap.size + 2, _, none⟩) (by simp) _
end Go.Proofs.YtajfgmlockjmhafDoor
namespace Go.Proofs.YtajfgmlockjmhafDoor
open Go.RowKit

/-- A row of five put in. -/
def rset (M : Nat → Nat → Bool) (i : Nat) (A : Nat → Bool) : Nat → Nat → Bool := fun x y => if x = i then A y else M x y
theorem Mx.row {w : World} {b : Nat} {M : Nat → Nat → Bool} (h : Mx w b M) {i : Nat} (hi : i < 5) (A : Nat → Bool) :
    Mx (((((w.setCell ⟨b, i * 5, none⟩ (.bool (A 0))).setCell ⟨b, i * 5 + 1, none⟩ (.bool (A 1))).setCell ⟨b, i * 5 + 2, none⟩ (.bool (A 2))).setCell ⟨b, i * 5 + 3, none⟩ (.bool (A 3))).setCell ⟨b, i * 5 + 4, none⟩ (.bool (A 4))) b (rset M i A) := fun x y hx hy => by
  obtain ⟨h1, h2⟩ := h x y hx hy
  refine ⟨?_, by simpa using h2⟩
  by_cases he : x = i
  · subst he
    have e : rset M x A x y = A y := by simp [rset]
    rw [e]
    have g0 := (h x 0 hi (by omega)).1
    have g1 := (h x 1 hi (by omega)).1
    have g2 := (h x 2 hi (by omega)).1
    have g3 := (h x 3 hi (by omega)).1
    have g4 := (h x 4 hi (by omega)).1
    rw [Nat.add_zero] at g0
    obtain rfl | rfl | rfl | rfl | rfl : y = 0 ∨ y = 1 ∨ y = 2 ∨ y = 3 ∨ y = 4 := by omega
    all_goals simp [go_sem, g0, g1, g2, g3, g4]
  · have e : rset M i A x y = M x y := by simp [rset, he]
    rw [e]
    rw [World.cell?_setCell_other _ _ _ _ (by intro e; injection e with _ e2; omega), World.cell?_setCell_other _ _ _ _ (by intro e; injection e with _ e2; omega), World.cell?_setCell_other _ _ _ _ (by intro e; injection e with _ e2; omega), World.cell?_setCell_other _ _ _ _ (by intro e; injection e with _ e2; omega), World.cell?_setCell_other _ _ _ _ (by intro e; injection e with _ e2; omega)]
    exact h1
theorem Mx.apart5 {w : World} {b c : Nat} {M : Nat → Nat → Bool} (h : Mx w b M) (hne : b ≠ c) (i0 i1 i2 i3 i4 : Nat) (u0 u1 u2 u3 u4 : Value) :
    Mx (((((w.setCell ⟨c, i0, none⟩ u0).setCell ⟨c, i1, none⟩ u1).setCell ⟨c, i2, none⟩ u2).setCell ⟨c, i3, none⟩ u3).setCell ⟨c, i4, none⟩ u4) b M :=
  ((((h.apart hne _ _).apart hne _ _).apart hne _ _).apart hne _ _).apart hne _ _
theorem Mx.alloc {w : World} {b : Nat} {M : Nat → Nat → Bool} (h : Mx w b M) (hb : b < w.heap.size) (o : Obj) : Mx (w.alloc o) b M :=
  h.below (B := w.heap.size) ((Below.refl _ _).alloc (Nat.le_refl _) _) hb
/-- A row that takes over what another one reaches. -/
theorem Win.took {e : Nat → Nat → Bool} {m i : Nat} {M : Nat → Nat → Bool} (h : Win e m i 0 M) (hm : m < 5) (hi : i < 5) (h1 : M i m = true) : Win e m (i + 1) 0 (rset M i fun y => M i y || M m y) := by
  intro x y hx hy
  by_cases he : x = i
  · subst he
    have ev : rset M x (fun y => M x y || M m y) x y = (M x y || M m y) := by simp [rset]
    rw [ev]
    have hup : (M x y || M m y) = true → pm e (m + 1) x y = true := fun hh => by
      rw [Bool.or_eq_true] at hh
      rcases hh with a | a
      · exact (h x y hx hy).2.1 a
      · exact pm_via (pm_col ((h x m hx hm).2.1 h1)) (pm_row ((h m y hm hy).2.1 a))
    refine ⟨fun hp => by rw [(h x y hx hy).1 hp]; rfl, hup, fun _ => ?_⟩
    cases hq : (M x y || M m y) with
    | true => exact (hup hq).symm
    | false =>
      cases hp : pm e (m + 1) x y with
      | false => rfl
      | true =>
        rw [Bool.or_eq_false_iff] at hq
        rcases pm_cases hp with a | ⟨_, b⟩
        · rw [(h x y hx hy).1 a] at hq; cases hq.1
        · rw [(h m y hm hy).1 b] at hq; cases hq.2
  · have ev : rset M i (fun y => M i y || M m y) x y = M x y := by simp [rset, he]
    rw [ev]
    exact ⟨(h x y hx hy).1, (h x y hx hy).2.1, fun hh => (h x y hx hy).2.2 (by omega)⟩
theorem Win.left {e : Nat → Nat → Bool} {m i : Nat} {M : Nat → Nat → Bool} (h : Win e m i 0 M) (hm : m < 5) (hi : i < 5) (h1 : M i m = false) : Win e m (i + 1) 0 M := by
  intro x y hx hy
  refine ⟨(h x y hx hy).1, (h x y hx hy).2.1, fun hh => ?_⟩
  by_cases he : x = i
  · subst he
    cases hM : M x y with
    | true => exact ((h x y hx hy).2.1 hM).symm
    | false =>
      cases hp : pm e (m + 1) x y with
      | false => rfl
      | true =>
        rcases pm_cases hp with a | ⟨a, _⟩
        · rw [(h x y hx hy).1 a] at hM; cases hM
        · rw [(h x m hx hm).1 a] at h1; cases h1
  · exact (h x y hx hy).2.2 (by omega)

set_option maxRecDepth 100000 in
set_option maxHeartbeats 8000000 in
theorem reached_any (l : List W4) (v : Value) (w : World) (hl : Wrs w v l) (hlen : l.length ≤ 12) (hok : ∀ x ∈ l, w4chk x = 0) :
    Calls Tryd.prog 67 #[v] w fun e w' => e = .returned (.agg (wayCells l).toArray) ∧ Below w.heap.size w w' := by
  obtain ⟨ao, cap, rfl⟩ := hl.form
  have HL : Hid (Wrs w (.slice ao l.length cap) l) := hl
  have HK : Hid (∀ x ∈ l, w4chk x = 0) := hok
  clear hl hok
  go_enter Tryd.func67, Tryd.ntmps67
  go_wp2
  go_loopw [9] (fun i wr => ∃ k : Nat, k ≤ 5 ∧ i = .int .i64 k ∧ Mx wr (w.heap.size + 1) (dg k) ∧ Mx wr w.heap.size (dg 0) ∧ Below w.heap.size w wr ∧ w.heap.size + 2 ≤ wr.heap.size) (fun i _ => 5 - (intOf i).toNat)
  case atStart =>
    refine ⟨0, Nat.zero_le _, rfl, ?_, ?_, ((Below.refl _ _).alloc (Nat.le_refl _) _).alloc (by simp) _, by simp⟩
    · intro x y hx hy
      revert y
      revert x
      refine five ?_ ?_ ?_ ?_ ?_ <;> refine five ?_ ?_ ?_ ?_ ?_ <;> simp [dg]
    · intro x y hx hy
      revert y
      revert x
      refine five ?_ ?_ ?_ ?_ ?_ <;> refine five ?_ ?_ ?_ ?_ ?_ <;> simp [dg]
  case round =>
    obtain ⟨k, hk, rfl, hM, hZ, hB, hsz⟩ := hrel
    have HM : Hid (Mx wr (w.heap.size + 1) (dg k)) := hM
    have HZ : Hid (Mx wr w.heap.size (dg 0)) := hZ
    clear hM hZ
    by_cases hk5 : k < 5
    · have hki : (k : Int) < 5 := by omega
      obtain ⟨c, f⟩ := HM.out k k hk5 hk5
      go_wp2
      go_roundw
      case rel => exact ⟨k + 1, by omega, by go_num, (HM.out.set hk5 hk5).congr (fun x y _ _ => dg_succ k x y), HZ.out.apart (by omega) _ _, hB.setCell (p := ⟨w.heap.size + 1, _, none⟩) (Nat.le_succ _) _, by simpa using hsz⟩
      case measure => simp [intOf]; omega
    · obtain rfl : k = 5 := by omega
      rw [show ((5 : Nat) : Int) = 5 from rfl]
      have HE : Hid (Mx wr (w.heap.size + 1) (edge (l.take 0))) := HM.out.congr (fun x y hx hy => by rw [List.take_zero]; exact dg_five x y hx hy)
      clear HM
      go_wp2
      rename World => wo
      go_loopw [19] (fun i wr => ∃ k : Nat, k ≤ l.length ∧ i = .int .i64 k ∧ Mx wr (w.heap.size + 1) (edge (l.take k)) ∧ Mx wr w.heap.size (dg 0) ∧ Below w.heap.size w wr ∧ w.heap.size + 2 ≤ wr.heap.size) (fun i _ => l.length - (intOf i).toNat)
      case atStart => exact ⟨0, Nat.zero_le _, rfl, HE.out, HZ.out, hB, hsz⟩
      case round =>
        clear HE HZ hB hsz
        obtain ⟨k, hk, rfl, hM, hZ, hB, hsz⟩ := hrel
        have HM : Hid (Mx wr (w.heap.size + 1) (edge (l.take k))) := hM
        have HZ : Hid (Mx wr w.heap.size (dg 0)) := hZ
        clear hM hZ
        by_cases hkl : k < l.length
        · have hki : (k : Int) < (l.length : Int) := by omega
          obtain ⟨b, off, f, t, kd, d, rfl, hlt, hx, c0, c1, c2, c3⟩ := HL.out.at hkl
          have hr := w4_rooms (HK.out _ (List.mem_of_getElem? hx))
          simp only at hr
          obtain ⟨fi, rfl⟩ : ∃ n : Nat, f = n := ⟨f.toNat, by omega⟩
          obtain ⟨ti, rfl⟩ : ∃ n : Nat, t = n := ⟨t.toNat, by omega⟩
          obtain ⟨_, hf5, _, ht5, _⟩ := hr
          have HX : Hid (l[k]? = some ((fi : Int), (ti : Int), kd, d)) := hx
          have hf5' : (fi : Int) < 5 := hf5
          have ht5' : (ti : Int) < 5 := ht5
          have hfn : fi < 5 := by omega
          have htn : ti < 5 := by omega
          replace c0 := (hB.cell (p := ⟨b, _, none⟩) hlt).trans c0
          replace c1 := (hB.cell (p := ⟨b, _, none⟩) hlt).trans c1
          replace c2 := (hB.cell (p := ⟨b, _, none⟩) hlt).trans c2
          replace c3 := (hB.cell (p := ⟨b, _, none⟩) hlt).trans c3
          obtain ⟨c, fz⟩ := HM.out fi ti hfn htn
          have hne1 : w.heap.size + 1 < wr.heap.size := by omega
          clear hx
          go_wp2
          go_region
          all_goals go_wp2
          all_goals go_roundw
          case rel =>
            refine ⟨k + 1, by omega, by go_num, ?_, ((HZ.out.apart (by omega) _ _).alloc (by simp; omega) _).drew, ((hB.setCell (p := ⟨w.heap.size + 1, _, none⟩) (Nat.le_succ _) _).alloc (by simp; omega) _).drew, by simp; omega⟩
            refine (((HM.out.set hfn htn).congr (fun x y _ _ => ?_)).alloc (by simp; omega) _).drew
            rw [edge_snoc (l.take k) fi ti kd d fi ti rfl rfl, ← take_snoc4 HX.out]
          case measure => simp [intOf]; omega
        · obtain rfl : k = l.length := by omega
          have hki : decide ((l.length : Int) < (l.length : Int)) = false := by simp
          have HE : Hid (Mx wr (w.heap.size + 1) (pm (edge l) 0)) := HM.out.congr (fun x y _ _ => by rw [List.take_length]; rfl)
          clear HM
          go_wp2
          rename World => wp
          go_loopw [30] (fun i wr => ∃ m : Nat, m ≤ 5 ∧ i = .int .i64 m ∧ Mx wr (w.heap.size + 1) (pm (edge l) m) ∧ Mx wr w.heap.size (dg 0) ∧ Below w.heap.size w wr ∧ w.heap.size + 2 ≤ wr.heap.size) (fun i _ => 5 - (intOf i).toNat)
          case atStart => exact ⟨0, Nat.zero_le _, rfl, HE.out, HZ.out, hB, hsz⟩
          case round =>
            clear HE HZ hB hsz
            obtain ⟨m, hm, rfl, hM, hZ, hB, hsz⟩ := hrel
            have HM : Hid (Mx wr (w.heap.size + 1) (pm (edge l) m)) := hM
            have HZ : Hid (Mx wr w.heap.size (dg 0)) := hZ
            clear hM hZ
            by_cases hm5 : m < 5
            · have hmi : (m : Int) < 5 := by omega
              go_wp2
              rename World => wq
              go_loopw [33] (fun i wr => ∃ (i' : Nat) (M : Nat → Nat → Bool), i' ≤ 5 ∧ i = .int .i64 i' ∧ Win (edge l) m i' 0 M ∧ Mx wr (w.heap.size + 1) M ∧ Mx wr w.heap.size (dg 0) ∧ Below w.heap.size w wr ∧ w.heap.size + 2 ≤ wr.heap.size) (fun i _ => 5 - (intOf i).toNat)
              case atStart => exact ⟨0, _, Nat.zero_le _, rfl, Win.start _ m, HM.out, HZ.out, hB, hsz⟩
              case round =>
                clear HM HZ hB hsz
                obtain ⟨i, M, hi, rfl, hW, hM, hZ, hB, hsz⟩ := hrel
                have HW : Hid (Win (edge l) m i 0 M) := hW
                have HM : Hid (Mx wr (w.heap.size + 1) M) := hM
                have HZ : Hid (Mx wr w.heap.size (dg 0)) := hZ
                clear hM hZ hW
                by_cases hi5 : i < 5
                · have hii : (i : Int) < 5 := by omega
                  obtain ⟨c1, _⟩ := HM.out i m hi5 hm5
                  cases h1 : M i m with
                  | false =>
                    have H1 : Hid (M i m = false) := h1
                    rw [h1] at c1
                    clear h1
                    go_wp2
                    go_roundw
                    case rel => exact ⟨i + 1, M, by omega, by go_num, HW.out.left hm5 hi5 H1.out, HM.out, HZ.out, hB, hsz⟩
                    case measure => simp [intOf]; omega
                  | true =>
                    have H1 : Hid (M i m = true) := h1
                    have c1' := c1
                    rw [h1] at c1'
                    clear h1 c1
                    go_upto_region 19 with fail
                    obtain ⟨a0, f0⟩ := HM.out i 0 hi5 (by omega)
                    obtain ⟨a1, f1⟩ := HM.out i 1 hi5 (by omega)
                    obtain ⟨a2, f2⟩ := HM.out i 2 hi5 (by omega)
                    obtain ⟨a3, f3⟩ := HM.out i 3 hi5 (by omega)
                    obtain ⟨a4, f4⟩ := HM.out i 4 hi5 (by omega)
                    obtain ⟨b0, _⟩ := HM.out m 0 hm5 (by omega)
                    obtain ⟨b1, _⟩ := HM.out m 1 hm5 (by omega)
                    obtain ⟨b2, _⟩ := HM.out m 2 hm5 (by omega)
                    obtain ⟨b3, _⟩ := HM.out m 3 hm5 (by omega)
                    obtain ⟨b4, _⟩ := HM.out m 4 hm5 (by omega)
                    replace a0 : wr.cell? ⟨w.heap.size + 1, i * 5, none⟩ = some (.bool (M i 0)) := a0
                    replace f0 : wr.frozen? ⟨w.heap.size + 1, i * 5, none⟩ = false := f0
                    replace b0 : wr.cell? ⟨w.heap.size + 1, m * 5, none⟩ = some (.bool (M m 0)) := b0
                    have hei := either_any (M i) (M m) wr.drew
                    unfold rwV at hei
                    clear c1'
                    have hlt1 : w.heap.size + 1 < wr.heap.size := by omega
                    go_region_with (go_at_call 90; refine hei.mono ?_; rintro e w1 ⟨rfl, be⟩; have k0 := (be.cell (p := ⟨w.heap.size + 1, i * 5, none⟩) hlt1).trans a0; have k1 := (be.cell (p := ⟨w.heap.size + 1, i * 5 + 1, none⟩) hlt1).trans a1; have k2 := (be.cell (p := ⟨w.heap.size + 1, i * 5 + 2, none⟩) hlt1).trans a2; have k3 := (be.cell (p := ⟨w.heap.size + 1, i * 5 + 3, none⟩) hlt1).trans a3; have k4 := (be.cell (p := ⟨w.heap.size + 1, i * 5 + 4, none⟩) hlt1).trans a4; have g0 := (be.frozen (p := ⟨w.heap.size + 1, i * 5, none⟩) hlt1).trans f0; have g1 := (be.frozen (p := ⟨w.heap.size + 1, i * 5 + 1, none⟩) hlt1).trans f1; have g2 := (be.frozen (p := ⟨w.heap.size + 1, i * 5 + 2, none⟩) hlt1).trans f2; have g3 := (be.frozen (p := ⟨w.heap.size + 1, i * 5 + 3, none⟩) hlt1).trans f3; have g4 := (be.frozen (p := ⟨w.heap.size + 1, i * 5 + 4, none⟩) hlt1).trans f4)
                    all_goals (
                      go_wp2
                      go_roundw
                      case rel =>
                        have be' : Below wr.heap.size wr w1 := ((Below.refl _ wr).drew).trans be
                        have hB1 : Below w.heap.size w w1 := hB.trans (be'.mono hB.size)
                        have hs1 := be'.size
                        refine ⟨i + 1, _, by omega, by go_num, HW.out.took hm5 hi5 H1.out, (HM.out.below be' (by omega)).row hi5 (fun y => M i y || M m y), (HZ.out.below be' (by omega)).apart5 (by omega) _ _ _ _ _ _ _ _ _ _, ?_, by simp; omega⟩
                        exact ((((hB1.setCell (p := ⟨w.heap.size + 1, _, none⟩) (Nat.le_succ _) _).setCell (p := ⟨w.heap.size + 1, _, none⟩) (Nat.le_succ _) _).setCell (p := ⟨w.heap.size + 1, _, none⟩) (Nat.le_succ _) _).setCell (p := ⟨w.heap.size + 1, _, none⟩) (Nat.le_succ _) _).setCell (p := ⟨w.heap.size + 1, _, none⟩) (Nat.le_succ _) _
                      case measure => simp [intOf]; omega)
                · obtain rfl : i = 5 := by omega
                  go_wp2
                  go_roundw
                  case rel => exact ⟨m + 1, by omega, by go_num, HM.out.congr HW.out.last, HZ.out, hB, hsz⟩
                  case measure => simp [intOf]; omega
            · obtain rfl : m = 5 := by omega
              have hrg : wr.rangeAt (w.heap.size + 1) 0 (wayCells l) := HM.out.range
              have hth : wr.there w.heap.size 0 25 := HZ.out.there
              clear HM HZ
              go_upto_region 22 with fail
              refine wp_region_lit ?_
              refine wpList_load_mid rfl 139 _ rfl (w.heap.size + 1) 0 rfl (wayCells l) _ hrg Tryd.underlying139 rfl (by kernel_rfl) ?_
              refine wpList_store_mid rfl 139 _ _ rfl w.heap.size 0 (wayCells l).toArray rfl rfl hth (by kernel_rfl) (way_one l) ?_
              have hB2 : Below w.heap.size w (wr.setCells w.heap.size 0 (wayCells l)) := below_cells hB (Nat.le_refl _) _ _
              have hr2 : (wr.setCells w.heap.size 0 (wayCells l)).rangeAt w.heap.size 0 (wayCells l) := World.rangeAt_setCells_same _ _ _ _ hth
              have hld : (loadVar 139 ⟨w.heap.size, 0, none⟩).run Tryd.prog (wr.setCells w.heap.size 0 (wayCells l)) = .ok (.agg (wayCells l).toArray) (wr.setCells w.heap.size 0 (wayCells l)) := run_loadVar_mid _ _ _ _ _ _ hr2 Tryd.underlying139 rfl (by kernel_rfl)
              rw [show (wayCells l).toArray.toList = wayCells l from rfl]
              generalize wr.setCells w.heap.size 0 (wayCells l) = wz at hB2 hr2 hld ⊢
              clear hr2 hrg hth
              go_wp2
              refine bodyPost_ret (v := .agg (wayCells l).toArray) ?_ rfl ⟨rfl, hB2⟩
              exact results_cell Tryd.results67 rfl hld
end Go.Proofs.YtajfgmlockjmhafDoor
namespace Go.Proofs.YtajfgmlockjmhafDoor
open Go.RowKit

theorem ltc {w : World} {b o : Nat} {v : Value} (h : w.cell? ⟨b, o, none⟩ = some v) : b < w.heap.size := by
  rcases Nat.lt_or_ge b w.heap.size with h' | h'
  · exact h'
  · simp [World.cell?, Array.getElem?_eq_none h'] at h
theorem retB {a b : Bool} (h : a = b) : Ending.returned (.bool a) = .returned (.bool b) := by rw [h]
theorem retI {k : IntKind} {a b : Int} (h : a = b) : Ending.returned (.int k a) = .returned (.int k b) := by rw [h]
/-- An error as a value. -/
def fErr (e : Int) : Value := if e = 0 then .nilIface else .iface 87 (.int .i64 e)
theorem fErr_not {e : Int} (h : e ≠ 0) : fErr e = .iface 87 (.int .i64 e) := by simp [fErr, h]
/-- The cells of spans. -/
def SpC (w : World) (b off : Nat) (l : List S3) : Prop := ∀ (i : Nat) o, l[i]? = some o → w.cell? ⟨b, off + i * 3, none⟩ = some (.int .i64 o.1) ∧ w.cell? ⟨b, off + i * 3 + 1, none⟩ = some (.int .i64 o.2.1) ∧ w.cell? ⟨b, off + i * 3 + 2, none⟩ = some (.int .i64 o.2.2)
/-- Spans that can be read in the world. -/
def Sps (w : World) (v : Value) (l : List S3) : Prop :=
  (l = [] ∧ ∃ ao cap, v = .slice ao 0 cap) ∨ ∃ b off cap, v = .slice (some ⟨b, off, none⟩) l.length cap ∧ l.length ≤ cap ∧ b < w.heap.size ∧ SpC w b off l
theorem SpC.below {w w' : World} {b off B : Nat} {l : List S3} (h : SpC w b off l) (hb : Below B w w') (hlt : b < B) : SpC w' b off l := fun i o ho => by
  obtain ⟨h0, h1, h2⟩ := h i o ho
  exact ⟨(hb.cell (p := ⟨b, _, none⟩) hlt).trans h0, (hb.cell (p := ⟨b, _, none⟩) hlt).trans h1, (hb.cell (p := ⟨b, _, none⟩) hlt).trans h2⟩
theorem SpC.take {w : World} {b off : Nat} {l : List S3} (h : SpC w b off l) (k : Nat) : SpC w b off (l.take k) := fun i o ho => by
  rw [List.getElem?_take] at ho
  split at ho
  · exact h i o ho
  · cases ho
theorem Sps.all {w w' : World} {v : Value} {l : List S3} (h : Sps w v l) (hb : Below w.heap.size w w') : Sps w' v l := by
  rcases h with h | ⟨b, off, cap, rfl, hcap, hlt, hc⟩
  · exact Or.inl h
  · exact Or.inr ⟨b, off, cap, rfl, hcap, Nat.lt_of_lt_of_le hlt hb.size, hc.below hb hlt⟩
theorem Sps.form {w : World} {v : Value} {l : List S3} (h : Sps w v l) : ∃ ao cap, v = .slice ao l.length cap := by
  rcases h with ⟨rfl, ao, cap, rfl⟩ | ⟨b, off, cap, rfl, _⟩
  · exact ⟨ao, cap, rfl⟩
  · exact ⟨_, cap, rfl⟩
theorem fidx_hit {α : Type} {p : α → Bool} : ∀ {l : List α} {k : Nat} {o : α}, (∀ i x, i < k → l[i]? = some x → p x = false) → l[k]? = some o → p o = true → l.findIdx? p = some k
  | [], k, o, _, h, _ => by simp at h
  | x :: l, 0, o, _, h, hp => by simp at h; subst h; simp [List.findIdx?_cons, hp]
  | x :: l, k + 1, o, h0, h, hp => by
    have hx : p x = false := h0 0 x (by omega) rfl
    have := fidx_hit (l := l) (k := k) (o := o) (fun i y hi hy => h0 (i + 1) y (by omega) (by simpa using hy)) (by simpa using h) hp
    simp [List.findIdx?_cons, hx, this]
theorem fidx_miss {α : Type} {p : α → Bool} {l : List α} (h : ∀ (i : Nat) x, i < l.length → l[i]? = some x → p x = false) : l.findIdx? p = none := by
  rw [List.findIdx?_eq_none_iff]
  intro x hx
  obtain ⟨i, hi, rfl⟩ := List.getElem_of_mem hx
  exact h i _ hi (by simp [hi])

set_option maxRecDepth 100000 in
set_option maxHeartbeats 1000000 in
theorem isRoom_any (r : Int) (w : World) : Calls Tryd.prog 95 #[.int .i64 r] w fun e w' => e = .returned (.bool (decide (0 ≤ r) && decide (r < 5))) ∧ Below w.heap.size w w' := by
  by_cases h : 0 ≤ r
  · by_cases h2 : r < 5
    · go_enter Tryd.func95, Tryd.ntmps95
      go_wp2
      go_ret
      exact ⟨retB (by simp <;> omega), Below.refl _ _⟩
    · have h2' : decide (r < 5) = false := by simpa using h2
      go_enter Tryd.func95, Tryd.ntmps95
      go_wp2
      go_ret
      exact ⟨retB (by simp <;> omega), Below.refl _ _⟩
  · have h' : decide (0 ≤ r) = false := by simpa using h
    go_enter Tryd.func95, Tryd.ntmps95
    go_wp2
    go_ret
    exact ⟨retB (by simp <;> omega), Below.refl _ _⟩

set_option maxRecDepth 100000 in
set_option maxHeartbeats 1000000 in
theorem ffits_any (s : S3) (n : Int) (w : World) : Calls Tryd.prog 75 #[.agg #[.int .i64 s.1, .int .i64 s.2.1, .int .i64 s.2.2], .int .i64 n] w fun e w' => e = .returned (.bool (spOk n s)) ∧ Below w.heap.size w w' := by
  obtain ⟨a, b, r⟩ := s
  simp only
  have hr := fun W => isRoom_any r W
  by_cases h1 : 0 ≤ a
  · by_cases h2 : a < b
    · by_cases h3 : b ≤ n
      · have HF : Hid (spOk n (a, b, r) = (decide (0 ≤ r) && decide (r < 5))) := by show _ = _; simp [spOk, h1, h2, h3]
        go_enter Tryd.func75, Tryd.ntmps75
        go_wp2_with (go_at_call 95; refine (hr _).mono ?_; rintro e w1 ⟨rfl, b1⟩; clear hr)
        go_ret
        exact ⟨retB HF.out.symm, ((Below.refl _ _).alloc (Nat.le_refl _) _).trans (b1.mono (by simp))⟩
      · have h3' : decide (b ≤ n) = false := by simpa using h3
        have HF : Hid (spOk n (a, b, r) = false) := by show _ = _; simp [spOk, h3]
        clear hr
        go_enter Tryd.func75, Tryd.ntmps75
        go_wp2
        go_ret
        exact ⟨retB HF.out.symm, (Below.refl _ _).alloc (Nat.le_refl _) _⟩
    · have h2' : decide (a < b) = false := by simpa using h2
      have HF : Hid (spOk n (a, b, r) = false) := by show _ = _; simp [spOk, h2]
      clear hr
      go_enter Tryd.func75, Tryd.ntmps75
      go_wp2
      go_ret
      exact ⟨retB HF.out.symm, (Below.refl _ _).alloc (Nat.le_refl _) _⟩
  · have h1' : decide (0 ≤ a) = false := by simpa using h1
    have HF : Hid (spOk n (a, b, r) = false) := by show _ = _; simp [spOk, h1]
    clear hr
    go_enter Tryd.func75, Tryd.ntmps75
    go_wp2
    go_ret
    exact ⟨retB HF.out.symm, (Below.refl _ _).alloc (Nat.le_refl _) _⟩
end Go.Proofs.YtajfgmlockjmhafDoor
namespace Go.Proofs.YtajfgmlockjmhafDoor
open Go.RowKit

/-- The cells of spans, one behind the other. -/
def spCells (l : List S3) : List Value := l.flatMap fun o => [.int .i64 o.1, .int .i64 o.2.1, .int .i64 o.2.2]
theorem spCells_snoc (l : List S3) (o : S3) : spCells (l ++ [o]) = spCells l ++ [.int .i64 o.1, .int .i64 o.2.1, .int .i64 o.2.2] := by simp [spCells]
theorem spCells_at : ∀ (l : List S3) (i : Nat) (o : S3), l[i]? = some o → (spCells l)[i * 3]? = some (.int .i64 o.1) ∧ (spCells l)[i * 3 + 1]? = some (.int .i64 o.2.1) ∧ (spCells l)[i * 3 + 2]? = some (.int .i64 o.2.2)
  | [], i, o, h => by simp at h
  | x :: l, 0, o, h => by
    simp at h
    subst h
    simp [spCells]
  | x :: l, i + 1, o, h => by
    have := spCells_at l i o (by simpa using h)
    have e : spCells (x :: l) = [.int .i64 x.1, .int .i64 x.2.1, .int .i64 x.2.2] ++ spCells l := by simp [spCells]
    rw [e]
    refine ⟨?_, ?_, ?_⟩
    · rw [List.getElem?_append_right (by simp; omega)]
      simpa [show (i + 1) * 3 - 3 = i * 3 by omega] using this.1
    · rw [List.getElem?_append_right (by simp; omega)]
      simpa [show (i + 1) * 3 + 1 - 3 = i * 3 + 1 by omega] using this.2.1
    · rw [List.getElem?_append_right (by simp; omega)]
      simpa [show (i + 1) * 3 + 2 - 3 = i * 3 + 2 by omega] using this.2.2
theorem sps_of_own {w : World} {base : Nat} {v : Value} {l : List S3} (h : w.ownsRow base 59 3 v l.length (spCells l)) : Sps w v l := by
  have hl := h.lt
  have hcs := @World.ownsRow.cells _ _ _ _ _ _ _ h
  rcases h.2 with ⟨rfl, h0⟩ | ⟨g, cap, cur, rfl, _, _, hcap, _⟩
  · exact Or.inl ⟨List.eq_nil_of_length_eq_zero h0, _, _, rfl⟩
  · have hat : ∀ j u, (spCells l)[j]? = some u → w.cell? ⟨g, j, none⟩ = some u := fun j u hu => by
      have := hcs rfl j u hu
      unfold Addr.add at this
      split at this
      · rename_i h0; subst h0; exact this
      · simpa using this
    refine Or.inr ⟨g, 0, cap, rfl, hcap, (hl g rfl).2, fun i o ho => ?_⟩
    obtain ⟨h1, h2, h3⟩ := spCells_at l i o ho
    exact ⟨by simpa using hat _ _ h1, by simpa using hat _ _ h2, by simpa using hat _ _ h3⟩
theorem own_apart {w : World} {b1 b2 : Nat} {e1 e2 : TypeId} {s1 s2 : Nat} {v1 v2 : Value} {n1 n2 : Nat} {x1 x2 : List Value} (he : e1 ≠ e2) (h1 : w.ownsRow b1 e1 s1 v1 n1 x1) (h2 : w.ownsRow b2 e2 s2 v2 n2 x2) : v1.ownBlock = none ∨ v1.ownBlock ≠ v2.ownBlock := by
  rcases h1.2 with ⟨rfl, _⟩ | ⟨g1, c1, u1, rfl, _, hb1, _⟩
  · exact Or.inl rfl
  · rcases h2.2 with ⟨rfl, _⟩ | ⟨g2, c2, u2, rfl, _, hb2, _⟩
    · exact Or.inr (by simp [Value.ownBlock])
    · refine Or.inr fun e => ?_
      simp only [Value.ownBlock, Option.some.injEq] at e
      subst e
      rw [hb1] at hb2
      simp only [Option.some.injEq, Obj.cells.injEq] at hb2
      exact he hb2.2.1
theorem own_succ {W : World} {base : Nat} {e : TypeId} {size : Nat} {v : Value} {k : Nat} {xs : List Value} (h : W.ownsRow base e size v (k + 1) xs) : ∃ g cap, v = .slice (some ⟨g, 0, none⟩) (k + 1) cap := by
  rcases h.2 with ⟨_, h0⟩ | ⟨g, cap, cur, h1, _⟩
  · omega
  · exact ⟨g, cap, h1⟩
theorem own_form {w : World} {base : Nat} {e : TypeId} {size : Nat} {v : Value} {n : Nat} {xs : List Value} (R : w.ownsRow base e size v n xs) : ∃ g n' cap, v = .slice g n' cap := by
  rcases R.2 with ⟨h, _⟩ | ⟨g, cap, cur, h, _⟩
  · exact ⟨_, _, _, h⟩
  · exact ⟨_, _, _, h⟩
theorem infoOps : (Tryd.prog.info? 36).map (fun i => (i.zero, i.size, i.bytes)) = some (some (.slice none 0 0), 1, 24) := by kernel_rfl
theorem infoSp : (Tryd.prog.info? 59).map (fun i => (i.zero, i.size, i.bytes)) = some (some (.agg #[.int .i64 0, .int .i64 0, .int .i64 0]), 3, 24) := by kernel_rfl
theorem box_grown {W W' : World} {row : Option Nat} (hg : W.grownBy W' row) {b : Nat} (hb : b < W.heap.size) (hne : some b ≠ row) : (∀ o, W'.cell? ⟨b, o, none⟩ = W.cell? ⟨b, o, none⟩) ∧ (∀ o, W'.frozen? ⟨b, o, none⟩ = W.frozen? ⟨b, o, none⟩) :=
  ⟨fun o => World.cell?_of_block (a := ⟨b, o, none⟩) (hg.block b hb hne), fun o => World.frozen?_of_block (a := ⟨b, o, none⟩) (hg.block b hb hne)⟩
theorem sp_new (w : World) (x y z : Value) (t : TypeId) : ∀ j u, [x, y, z][j]? = some u → (w.alloc (.cells #[x, y, z] t)).cell? ((⟨w.heap.size, 0, none⟩ : Addr).add j) = some u := by
  intro j u hj
  match j, hj with
  | 0, hj => simp at hj; subst hj; simp [Addr.add]
  | 1, hj => simp at hj; subst hj; simp [Addr.add]
  | 2, hj => simp at hj; subst hj; simp [Addr.add]
end Go.Proofs.YtajfgmlockjmhafDoor
namespace Go.Proofs.YtajfgmlockjmhafDoor
open Go.RowKit

theorem fieldsSt : Tryd.prog.underlying 39 = some (.struct (Tryd.prog.fieldsOf 39)) := by kernel_rfl
theorem stoodSt : Tryd.prog.stoodInHeld 39 = false := by kernel_rfl
theorem guardSt : Tryd.prog.eqGuardType Tryd.prog.depth 39 = false := by kernel_rfl
theorem fieldsStIs : Tryd.prog.fieldsOf 39 = #[{ name := "At", type := 3, offset := 0, embedded := false, tag := "", pkgPath := "", byteOffset := 0 }, { name := "Cells", type := 37, offset := 1, embedded := false, tag := "", pkgPath := "", byteOffset := 8 }, { name := "Failed", type := 4, offset := 7, embedded := false, tag := "", pkgPath := "", byteOffset := 56 }] := by kernel_rfl
theorem eqIn_six (a b c d e f : Int) (w : World) : (Op.equalIn 9999 37 (.agg #[.int .i64 a, .int .i64 b, .int .i64 c, .int .i64 d, .int .i64 e, .int .i64 f]) (.agg #[.int .i64 a, .int .i64 b, .int .i64 c, .int .i64 d, .int .i64 e, .int .i64 f])).run Tryd.prog w = .ok true w := by
  obtain ⟨n, hn⟩ : ∃ n, n + 1 = 9999 := ⟨9998, rfl⟩
  obtain ⟨m, hm⟩ : ∃ m, n = m + 1 := ⟨9997, by omega⟩
  rw [← hn]
  clear hn
  have hq : ∀ (x : Int) (w : World), (Op.equalIn n 3 (.int .i64 x) (.int .i64 x)).run Tryd.prog w = .ok true w := fun x w => by
    rw [hm, run_equalIn_int w m 3 .i64 .i64 x x Tryd.underlying3]
    simp
  clear hm
  simp only [Op.equalIn, Sem.run_bind, run_underlying Tryd.underlying37, Result.andThen_ok]
  simp [List.range', go_sem, hq]
theorem eqIn_st (p a b c d e f : Int) (g : Bool) (w : World) : (Op.equalIn 10000 39 (.agg #[.int .i64 p, .int .i64 a, .int .i64 b, .int .i64 c, .int .i64 d, .int .i64 e, .int .i64 f, .bool g]) (.agg #[.int .i64 p, .int .i64 a, .int .i64 b, .int .i64 c, .int .i64 d, .int .i64 e, .int .i64 f, .bool g])).run Tryd.prog w = .ok true w := by
  rw [run_equalIn_agg _ _ _ _ _ fieldsSt stoodSt, fieldsStIs]
  simp [go_sem, Tryd.underlying3, Tryd.underlying4, eqIn_six]
theorem eql_st (p a b c d e f : Int) (g : Bool) (w : World) : (binOp .eql 39 (.agg #[.int .i64 p, .int .i64 a, .int .i64 b, .int .i64 c, .int .i64 d, .int .i64 e, .int .i64 f, .bool g]) (.agg #[.int .i64 p, .int .i64 a, .int .i64 b, .int .i64 c, .int .i64 d, .int .i64 e, .int .i64 f, .bool g])).run Tryd.prog w = .ok (.bool true) w := by
  rw [run_eql_struct, eqIn_st]
  rfl
theorem neq_st (p a b c d e f : Int) (g : Bool) (w : World) : (binOp .neq 39 (.agg #[.int .i64 p, .int .i64 a, .int .i64 b, .int .i64 c, .int .i64 d, .int .i64 e, .int .i64 f, .bool g]) (.agg #[.int .i64 p, .int .i64 a, .int .i64 b, .int .i64 c, .int .i64 d, .int .i64 e, .int .i64 f, .bool g])).run Tryd.prog w = .ok (.bool false) w := by
  rw [run_neq_struct, eqIn_st]
  rfl
end Go.Proofs.YtajfgmlockjmhafDoor
