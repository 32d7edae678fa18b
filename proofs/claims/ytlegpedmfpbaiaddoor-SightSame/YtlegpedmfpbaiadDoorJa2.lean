/-
  FlowMath, WVal, FlowBase, WireMath, PlanMath, KMath, PlanBase, PortL, KMath2, KTouchL, KTurnM, KTurnW, KerC, KerPoke, KerWire, KSet, POpen, SgtMath, StRow, GClone, StL, SgtCR, HdL, HdR, SgtC, SSame0, SgtAr: joined into one text.
-/
import Derived.Test.YtlegpedmfpbaiadDoorJa1
import Derived.Deep.MidRow
import Derived.Lib.SmallJoins
import Derived.Deep.Slices
import Derived.Deep.RegionLaw
import Derived.Deep.RegionWith
import Derived.Lib.SliceRun
import Derived.BigQuiet
import Derived.Deep.RegionHeld3
import Derived.Deep.CutRange
namespace Go.Proofs.YtlegpedmfpbaiadDoor

/-- A wire: from, to, kind, deep. -/
abbrev W4 := Int × Int × Int × Int
def w4chk (x : W4) : Int := wchk x.1 x.2.1 x.2.2.1 x.2.2.2
/-- Is there a wire from one to another one, or are they the same? -/
def edge (l : List W4) (i k : Nat) : Bool := decide (i = k) || l.any fun x => decide (x.1 = (i : Int)) && decide (x.2.1 = (k : Int))
/-- Is there a way, with none but rooms below m between? -/
def pm (e : Nat → Nat → Bool) : Nat → Nat → Nat → Bool
  | 0, i, k => e i k
  | m + 1, i, k => pm e m i k || (pm e m i m && pm e m m k)
theorem pm_zero (e : Nat → Nat → Bool) (i k : Nat) : pm e 0 i k = e i k := rfl
theorem pm_succ (e : Nat → Nat → Bool) (m i k : Nat) : pm e (m + 1) i k = (pm e m i k || (pm e m i m && pm e m m k)) := rfl
theorem pm_grow {e : Nat → Nat → Bool} {m i k : Nat} (h : pm e m i k = true) : pm e (m + 1) i k = true := by rw [pm_succ, h]; rfl
theorem pm_col {e : Nat → Nat → Bool} {m i : Nat} (h : pm e (m + 1) i m = true) : pm e m i m = true := by
  rw [pm_succ] at h
  cases h1 : pm e m i m
  · rw [h1] at h; simp at h
  · rfl
theorem pm_row {e : Nat → Nat → Bool} {m k : Nat} (h : pm e (m + 1) m k = true) : pm e m m k = true := by
  rw [pm_succ] at h
  cases h1 : pm e m m k
  · rw [h1] at h; simp at h
  · rfl
theorem pm_via {e : Nat → Nat → Bool} {m i k : Nat} (h1 : pm e m i m = true) (h2 : pm e m m k = true) : pm e (m + 1) i k = true := by rw [pm_succ, h1, h2]; simp
theorem pm_cases {e : Nat → Nat → Bool} {m i k : Nat} (h : pm e (m + 1) i k = true) : pm e m i k = true ∨ (pm e m i m = true ∧ pm e m m k = true) := by
  rw [pm_succ] at h
  simpa using h
theorem pm_trans (e : Nat → Nat → Bool) : ∀ (m i j k : Nat), j < m → pm e m i j = true → pm e m j k = true → pm e m i k = true
  | 0, i, j, k, h, _, _ => absurd h (Nat.not_lt_zero _)
  | m + 1, i, j, k, hj, h1, h2 => by
    by_cases hjm : j = m
    · subst hjm
      exact pm_via (pm_col h1) (pm_row h2)
    · have hj' : j < m := by omega
      rcases pm_cases h1 with a | ⟨a, b⟩
      · rcases pm_cases h2 with c | ⟨c, d⟩
        · exact pm_grow (pm_trans e m i j k hj' a c)
        · exact pm_via (pm_trans e m i j m hj' a c) d
      · rcases pm_cases h2 with c | ⟨c, d⟩
        · exact pm_via a (pm_trans e m m j k hj' b c)
        · exact pm_via a d
theorem pm_edge (e : Nat → Nat → Bool) : ∀ (m i k : Nat), e i k = true → pm e m i k = true
  | 0, _, _, h => h
  | m + 1, i, k, h => pm_grow (pm_edge e m i k h)
theorem pm_mono {e f : Nat → Nat → Bool} (h : ∀ i k, e i k = true → f i k = true) : ∀ (m i k : Nat), pm e m i k = true → pm f m i k = true
  | 0, i, k, h1 => h i k h1
  | m + 1, i, k, h1 => by
    rcases pm_cases h1 with a | ⟨a, b⟩
    · exact pm_grow (pm_mono h m i k a)
    · exact pm_via (pm_mono h m i m a) (pm_mono h m m k b)
/-- What each edge keeps, and what goes from one to the next, each way keeps. -/
theorem pm_keep {e : Nat → Nat → Bool} {R : Nat → Nat → Prop} (he : ∀ i k, e i k = true → R i k) (ht : ∀ i j k, R i j → R j k → R i k) : ∀ (m i k : Nat), pm e m i k = true → R i k
  | 0, i, k, h => he i k h
  | m + 1, i, k, h => by
    rcases pm_cases h with a | ⟨a, b⟩
    · exact pm_keep he ht m i k a
    · exact ht i m k (pm_keep he ht m i m a) (pm_keep he ht m m k b)
/-- Who reaches whom. -/
def way (l : List W4) (i k : Nat) : Bool := pm (edge l) 5 i k
theorem way_self (l : List W4) (i : Nat) : way l i i = true := pm_edge _ 5 i i (by simp [edge])
theorem way_trans (l : List W4) {i j k : Nat} (hj : j < 5) (h1 : way l i j = true) (h2 : way l j k = true) : way l i k = true := pm_trans _ 5 i j k hj h1 h2
theorem edge_more (l m : List W4) {i k : Nat} (h : edge l i k = true) : edge (l ++ m) i k = true := by
  simp only [edge, Bool.or_eq_true, List.any_append] at h ⊢
  rcases h with h | h
  · exact Or.inl h
  · exact Or.inr (Or.inl h)
theorem way_more (l m : List W4) {i k : Nat} (h : way l i k = true) : way (l ++ m) i k = true := pm_mono (fun _ _ h => edge_more l m h) 5 i k h
theorem edge_wire {l : List W4} {x : W4} (hx : x ∈ l) {i k : Nat} (h1 : x.1 = (i : Int)) (h2 : x.2.1 = (k : Int)) : edge l i k = true := by
  simp only [edge, Bool.or_eq_true, List.any_eq_true]
  exact Or.inr ⟨x, hx, by simp [h1, h2]⟩
/-- Whoever is reached by a step that starts where it is reached: the least such relation. -/
theorem way_least {l : List W4} {R : Nat → Nat → Prop} (hr : ∀ i, R i i) (hw : ∀ x ∈ l, ∀ i k : Nat, x.1 = (i : Int) → x.2.1 = (k : Int) → R i k) (ht : ∀ i j k, R i j → R j k → R i k) {i k : Nat} (h : way l i k = true) : R i k := by
  refine pm_keep (fun i k he => ?_) ht 5 i k h
  simp only [edge, Bool.or_eq_true, decide_eq_true_eq, List.any_eq_true, Bool.and_eq_true] at he
  rcases he with rfl | ⟨x, hx, h1, h2⟩
  · exact hr i
  · exact hw x hx i k h1 h2
/-- The first that is wrong. -/
def wscan : List W4 → Nat → Int × Int
  | [], _ => (0, 0)
  | x :: l, i => if w4chk x = 0 then wscan l (i + 1) else ((i : Int), w4chk x)
/-- What is wrong with wires: which, and how. -/
def wschk (l : List W4) : Int × Int := if 12 < l.length then (0, 4) else wscan l 0
theorem wscan_ok : ∀ {l : List W4} {i : Nat}, (wscan l i).2 = 0 → ∀ x ∈ l, w4chk x = 0
  | [], _, _, x, hx => by simp at hx
  | y :: l, i, h, x, hx => by
    unfold wscan at h
    by_cases hy : w4chk y = 0
    · rw [if_pos hy] at h
      rcases List.mem_cons.1 hx with rfl | hx
      · exact hy
      · exact wscan_ok h x hx
    · rw [if_neg hy] at h
      exact absurd h hy
theorem wschk_ok {l : List W4} (h : (wschk l).2 = 0) : l.length ≤ 12 ∧ ∀ x ∈ l, w4chk x = 0 := by
  unfold wschk at h
  by_cases hl : 12 < l.length
  · rw [if_pos hl] at h; simp at h
  · rw [if_neg hl] at h
    exact ⟨by omega, wscan_ok h⟩
theorem wscan_skip : ∀ (l : List W4) (k i : Nat), (∀ j x, j < k → l[j]? = some x → w4chk x = 0) → wscan l i = wscan (l.drop k) (i + k)
  | l, 0, i, _ => by simp
  | [], k + 1, i, _ => by simp [wscan]
  | x :: l, k + 1, i, h => by
    have hx : w4chk x = 0 := h 0 x (by omega) rfl
    have := wscan_skip l k (i + 1) (fun j y hj hy => h (j + 1) y (by omega) (by simpa using hy))
    simp only [wscan, hx, if_true, List.drop_succ_cons, this]
    congr 1
    omega
theorem wscan_hit {l : List W4} {k : Nat} {x : W4} (h : ∀ j y, j < k → l[j]? = some y → w4chk y = 0) (hx : l[k]? = some x) (hb : w4chk x ≠ 0) : wscan l 0 = ((k : Int), w4chk x) := by
  rw [wscan_skip l k 0 h]
  obtain ⟨hk, rfl⟩ := List.getElem?_eq_some_iff.1 hx
  rw [List.drop_eq_getElem_cons hk, wscan, if_neg hb, Nat.zero_add]
theorem wscan_none {l : List W4} (h : ∀ j y, j < l.length → l[j]? = some y → w4chk y = 0) : wscan l 0 = (0, 0) := by
  rw [wscan_skip l l.length 0 h]
  simp [wscan]
theorem w4_rooms {x : W4} (h : w4chk x = 0) : 0 ≤ x.1 ∧ x.1 < 5 ∧ 0 ≤ x.2.1 ∧ x.2.1 < 5 ∧ x.1 ≠ x.2.1 := by
  unfold w4chk wchk at h
  split at h
  · rename_i hc
    split at h
    · simp at h
    · omega
  · simp at h
end Go.Proofs.YtlegpedmfpbaiadDoor
namespace Go.Proofs.YtlegpedmfpbaiadDoor
open Go.RowKit

/-- A wire as a value. -/
def wV (f t k d : Int) : Value := .agg #[.int .i64 f, .int .i64 t, .int .i64 k, .int .i64 d]
end Go.Proofs.YtlegpedmfpbaiadDoor
namespace Go.Proofs.YtlegpedmfpbaiadDoor
open Go.RowKit

/-- The cells of wires. -/
def WrC (w : World) (b off : Nat) (l : List W4) : Prop := ∀ (i : Nat) x, l[i]? = some x → w.cell? ⟨b, off + i * 4, none⟩ = some (.int .i64 x.1) ∧ w.cell? ⟨b, off + i * 4 + 1, none⟩ = some (.int .i64 x.2.1) ∧ w.cell? ⟨b, off + i * 4 + 2, none⟩ = some (.int .i64 x.2.2.1) ∧ w.cell? ⟨b, off + i * 4 + 3, none⟩ = some (.int .i64 x.2.2.2)
/-- Wires that can be read. -/
def Wrs (w : World) (v : Value) (l : List W4) : Prop :=
  (l = [] ∧ ∃ ao cap, v = .slice ao 0 cap) ∨ ∃ b off cap, v = .slice (some ⟨b, off, none⟩) l.length cap ∧ l.length ≤ cap ∧ b < w.heap.size ∧ WrC w b off l
theorem WrC.below {w w' : World} {b off B : Nat} {l : List W4} (h : WrC w b off l) (hb : Below B w w') (hlt : b < B) : WrC w' b off l := fun i o ho => by
  obtain ⟨h0, h1, h2, h3⟩ := h i o ho
  exact ⟨(hb.cell (p := ⟨b, _, none⟩) hlt).trans h0, (hb.cell (p := ⟨b, _, none⟩) hlt).trans h1, (hb.cell (p := ⟨b, _, none⟩) hlt).trans h2, (hb.cell (p := ⟨b, _, none⟩) hlt).trans h3⟩
theorem Wrs.all {w w' : World} {v : Value} {l : List W4} (h : Wrs w v l) (hb : Below w.heap.size w w') : Wrs w' v l := by
  rcases h with h | ⟨b, off, cap, rfl, hcap, hlt, hc⟩
  · exact Or.inl h
  · exact Or.inr ⟨b, off, cap, rfl, hcap, Nat.lt_of_lt_of_le hlt hb.size, hc.below hb hlt⟩
theorem Wrs.form {w : World} {v : Value} {l : List W4} (h : Wrs w v l) : ∃ ao cap, v = .slice ao l.length cap := by
  rcases h with ⟨rfl, ao, cap, rfl⟩ | ⟨b, off, cap, rfl, _⟩
  · exact ⟨ao, cap, rfl⟩
  · exact ⟨_, cap, rfl⟩
theorem Wrs.at {w : World} {ao : Option Addr} {cap : Nat} {l : List W4} (h : Wrs w (.slice ao l.length cap) l) {i : Nat} (hi : i < l.length) : ∃ b off f t k d, ao = some ⟨b, off, none⟩ ∧ b < w.heap.size ∧ l[i]? = some (f, t, k, d) ∧ w.cell? ⟨b, off + i * 4, none⟩ = some (.int .i64 f) ∧ w.cell? ⟨b, off + i * 4 + 1, none⟩ = some (.int .i64 t) ∧ w.cell? ⟨b, off + i * 4 + 2, none⟩ = some (.int .i64 k) ∧ w.cell? ⟨b, off + i * 4 + 3, none⟩ = some (.int .i64 d) := by
  rcases h with ⟨rfl, _⟩ | ⟨b, off, cap', e, _, hlt, hc⟩
  · simp at hi
  · injection e with e1
    obtain ⟨⟨f, t, k, d⟩, hx'⟩ : ∃ x : W4, l[i]? = some x := ⟨l[i], List.getElem?_eq_getElem hi⟩
    obtain ⟨h0, h1, h2, h3⟩ := hc i _ hx'
    exact ⟨b, off, f, t, k, d, e1, hlt, hx', h0, h1, h2, h3⟩
end Go.Proofs.YtlegpedmfpbaiadDoor
namespace Go.Proofs.YtlegpedmfpbaiadDoor

/-- A number put into a list that rises, once; 'done': it is there. -/
def putGo (n : Int) : Bool → List Int → List Int
  | done, [] => if done then [] else [n]
  | done, x :: xs => if done then x :: putGo n true xs else if x = n then x :: putGo n true xs else if n < x then n :: x :: putGo n true xs else x :: putGo n false xs
theorem putGo_true (n : Int) : ∀ l, putGo n true l = l
  | [] => rfl
  | x :: xs => by simp [putGo, putGo_true n xs]
theorem putGo_nil (n : Int) : putGo n false [] = [n] := rfl
theorem putGo_eq {n x : Int} (h : x = n) (xs : List Int) : putGo n false (x :: xs) = x :: xs := by simp [putGo, h, putGo_true]
theorem putGo_lt {n x : Int} (h : n < x) (xs : List Int) : putGo n false (x :: xs) = n :: x :: xs := by
  have : x ≠ n := by omega
  simp [putGo, this, h, putGo_true]
theorem putGo_gt {n x : Int} (h : x < n) (xs : List Int) : putGo n false (x :: xs) = x :: putGo n false xs := by
  have h1 : x ≠ n := by omega
  have h2 : ¬ n < x := by omega
  simp [putGo, h1, h2]
theorem putGo_len (n : Int) : ∀ d l, (putGo n d l).length ≤ l.length + 1
  | d, [] => by unfold putGo; split <;> simp
  | d, x :: xs => by
    have h1 := putGo_len n true xs
    have h2 := putGo_len n false xs
    have h3 := congrArg List.length (putGo_true n xs)
    unfold putGo
    repeat' split
    all_goals simp only [List.length_cons]; omega
/-- The numbers from s on, k many, of which p says yes. -/
def pickN (p : Nat → Bool) (s k : Nat) : List Int := ((List.range' s k).filter p).map Int.ofNat
theorem pickN_zero (p : Nat → Bool) (s : Nat) : pickN p s 0 = [] := rfl
theorem pickN_succ (p : Nat → Bool) (s k : Nat) : pickN p s (k + 1) = if p s then (s : Int) :: pickN p (s + 1) k else pickN p (s + 1) k := by
  unfold pickN
  rw [List.range'_succ, List.filter_cons]
  split <;> simp
theorem pickN_congr {p q : Nat → Bool} {s k : Nat} (h : ∀ i, s ≤ i → i < s + k → p i = q i) : pickN p s k = pickN q s k := by
  unfold pickN
  congr 1
  apply List.filter_congr
  intro x hx
  rw [List.mem_range'_1] at hx
  exact h x hx.1 (by omega)
theorem pickN_gt (p : Nat → Bool) : ∀ (k s : Nat) (n : Int), n < s → putGo n false (pickN p s k) = n :: pickN p s k
  | 0, s, n, _ => rfl
  | k + 1, s, n, h => by
    rw [pickN_succ]
    split
    · exact putGo_lt h _
    · exact pickN_gt p k (s + 1) n (by omega)
theorem pickN_put (p : Nat → Bool) (m : Nat) : ∀ (k s : Nat), s ≤ m → m < s + k → putGo m false (pickN p s k) = pickN (fun i => p i || i == m) s k
  | 0, s, h1, h2 => by omega
  | k + 1, s, h1, h2 => by
    rw [pickN_succ, pickN_succ]
    by_cases hs : s = m
    · subst hs
      have hc : pickN (fun i => p i || i == s) (s + 1) k = pickN p (s + 1) k := pickN_congr fun i hi _ => by
        have : (i == s) = false := by simp; omega
        simp [this]
      simp only [beq_self_eq_true, Bool.or_true, if_true]
      rw [hc]
      split
      · exact putGo_eq rfl _
      · exact pickN_gt p k (s + 1) s (by omega)
    · have hsm : (s == m) = false := by simpa using hs
      simp only [hsm, Bool.or_false]
      have ih := pickN_put p m k (s + 1) (by omega) (by omega)
      split
      · rw [putGo_gt (by omega), ih]
      · exact ih
/-- An op of that What on that wire. -/
def onW (what : Int) (i : Nat) (o : O3) : Bool := decide (o.1 = what) && decide (o.2.2 = (i : Int))
def wiresB (what : Int) (l : List O3) : List Int := pickN (fun i => l.any (onW what i)) 0 12
def portStep (what : Int) (acc : List Int) (o : O3) : List Int := if o.1 = what then putGo o.2.2 false acc else acc
theorem wires_nil (what : Int) : wiresB what [] = [] := rfl
theorem wires_snoc (what : Int) (l : List O3) (o : O3) (h : o.1 = what → 0 ≤ o.2.2 ∧ o.2.2 < 12) : wiresB what (l ++ [o]) = portStep what (wiresB what l) o := by
  unfold portStep
  by_cases hw : o.1 = what
  · obtain ⟨h1, h2⟩ := h hw
    rw [if_pos hw]
    obtain ⟨m, hm⟩ : ∃ m : Nat, o.2.2 = m := ⟨o.2.2.toNat, by omega⟩
    rw [hm]
    unfold wiresB
    rw [pickN_put _ m 12 0 (by omega) (by omega)]
    apply pickN_congr
    intro i _ _
    have e : onW what i o = (i == m) := by
      rw [Bool.eq_iff_iff]
      simp [onW, hw, hm]
      omega
    rw [List.any_append]
    simp [e]
  · rw [if_neg hw]
    unfold wiresB
    apply pickN_congr
    intro i _ _
    have e : onW what i o = false := by simp [onW, hw]
    rw [List.any_append]
    simp [e]
theorem wires_len (what : Int) (l : List O3) : (wiresB what l).length ≤ 12 := by
  unfold wiresB pickN
  rw [List.length_map]
  have := List.length_filter_le (fun i => l.any (onW what i)) (List.range' 0 12)
  simpa using this
/-- The first i wires of them. -/
theorem pick_snoc (p : Nat → Bool) (k : Nat) : pickN p 0 (k + 1) = if p k then pickN p 0 k ++ [(k : Int)] else pickN p 0 k := by
  unfold pickN
  rw [List.range'_1_concat, List.filter_append, List.map_append]
  simp only [Nat.zero_add, List.filter_cons, List.filter_nil]
  split <;> simp
theorem pick_len (p : Nat → Bool) (k : Nat) : (pickN p 0 k).length ≤ k := by
  unfold pickN
  rw [List.length_map]
  have := List.length_filter_le p (List.range' 0 k)
  simpa using this
end Go.Proofs.YtlegpedmfpbaiadDoor
namespace Go.Proofs.YtlegpedmfpbaiadDoor

/-- A plan: the code of each room, ticks, spans, wires. -/
structure PD where
  code : List (List O3)
  ticks : Int
  spans : List S3
  wires : List W4
def PD.none : PD := ⟨[], 0, [], []⟩
/-- The fault of the first code that is wrong. -/
def codesE : List (List O3) → Int
  | [] => 0
  | c :: r => if (chk c).2 = 0 then codesE r else (chk c).2
/-- Is a wire none of a room's own? -/
def portB (at' : W4 → Int) (ws : List W4) (i : Nat) (k : Int) : Bool := match ws[k.toNat]? with
  | none => true
  | some x => !decide (at' x = (i : Int))
def portsB (ws : List W4) (i : Nat) (c : List O3) : Bool := (wiresB 8 c).any (portB (·.1) ws i) || (wiresB 9 c).any (portB (·.2.1) ws i)
def portsAny (ws : List W4) : Nat → List (List O3) → Bool
  | _, [] => false
  | i, c :: r => portsB ws i c || portsAny ws (i + 1) r
/-- Does a span name a room that has no code? -/
def spanOut (n : Nat) (s : S3) : Bool := decide ((n : Int) ≤ s.2.2)
def wireOut (n : Nat) (x : W4) : Bool := decide ((n : Int) ≤ x.1) || decide ((n : Int) ≤ x.2.1)
/-- The fault of a plan. -/
def plchk (p : PD) : Int :=
  if 5 < p.code.length then 4 else if p.code.length = 0 then 5 else
  if (fchk p.ticks p.spans).2 ≠ 0 then (fchk p.ticks p.spans).2 else
  if (wschk p.wires).2 ≠ 0 then (wschk p.wires).2 else
  if p.spans.any (spanOut p.code.length) = true then 1 else
  if p.wires.any (wireOut p.code.length) = true then 1 else
  if codesE p.code ≠ 0 then codesE p.code else
  if portsAny p.wires 0 p.code = true then 3 else 0
theorem plchk_long {p : PD} (h : 5 < p.code.length) : plchk p = 4 := by rw [plchk, if_pos h]
theorem plchk_none {p : PD} (h : p.code.length = 0) : plchk p = 5 := by rw [plchk, if_neg (by omega), if_pos h]
theorem plchk_frame {p : PD} (h1 : p.code.length ≤ 5) (h2 : p.code.length ≠ 0) (h3 : (fchk p.ticks p.spans).2 ≠ 0) : plchk p = (fchk p.ticks p.spans).2 := by rw [plchk, if_neg (by omega), if_neg h2, if_pos h3]
theorem plchk_wires {p : PD} (h1 : p.code.length ≤ 5) (h2 : p.code.length ≠ 0) (h3 : (fchk p.ticks p.spans).2 = 0) (h4 : (wschk p.wires).2 ≠ 0) : plchk p = (wschk p.wires).2 := by
  rw [plchk, if_neg (by omega), if_neg h2, if_neg (by simpa using h3), if_pos h4]
theorem plchk_span {p : PD} (h1 : p.code.length ≤ 5) (h2 : p.code.length ≠ 0) (h3 : (fchk p.ticks p.spans).2 = 0) (h4 : (wschk p.wires).2 = 0) (h5 : p.spans.any (spanOut p.code.length) = true) : plchk p = 1 := by
  rw [plchk, if_neg (by omega), if_neg h2, if_neg (by simpa using h3), if_neg (by simpa using h4), if_pos h5]
theorem plchk_wire {p : PD} (h1 : p.code.length ≤ 5) (h2 : p.code.length ≠ 0) (h3 : (fchk p.ticks p.spans).2 = 0) (h4 : (wschk p.wires).2 = 0) (h5 : p.spans.any (spanOut p.code.length) = false) (h6 : p.wires.any (wireOut p.code.length) = true) : plchk p = 1 := by
  rw [plchk, if_neg (by omega), if_neg h2, if_neg (by simpa using h3), if_neg (by simpa using h4), if_neg (by rw [h5]; decide), if_pos h6]
theorem plchk_tail {p : PD} (h1 : p.code.length ≤ 5) (h2 : p.code.length ≠ 0) (h3 : (fchk p.ticks p.spans).2 = 0) (h4 : (wschk p.wires).2 = 0) (h5 : p.spans.any (spanOut p.code.length) = false) (h6 : p.wires.any (wireOut p.code.length) = false) :
    plchk p = if codesE p.code ≠ 0 then codesE p.code else if portsAny p.wires 0 p.code = true then 3 else 0 := by
  rw [plchk, if_neg (by omega), if_neg h2, if_neg (by simpa using h3), if_neg (by simpa using h4), if_neg (by rw [h5]; decide), if_neg (by rw [h6]; decide)]
theorem plchk_zero {p : PD} (h : plchk p = 0) : p.code.length ≤ 5 ∧ p.code.length ≠ 0 ∧ (fchk p.ticks p.spans).2 = 0 ∧ (wschk p.wires).2 = 0 ∧ p.spans.any (spanOut p.code.length) = false ∧ p.wires.any (wireOut p.code.length) = false ∧ codesE p.code = 0 ∧ portsAny p.wires 0 p.code = false := by
  unfold plchk at h
  split at h
  · simp at h
  · rename_i h1
    split at h
    · simp at h
    · rename_i h2
      split at h
      · contradiction
      · rename_i h3
        split at h
        · contradiction
        · rename_i h4
          split at h
          · simp at h
          · rename_i h5
            split at h
            · simp at h
            · rename_i h6
              split at h
              · contradiction
              · rename_i h7
                split at h
                · simp at h
                · rename_i h8
                  exact ⟨by omega, h2, by simpa using h3, by simpa using h4, by simpa using h5, by simpa using h6, by simpa using h7, by simpa using h8⟩
theorem codesE_zero : ∀ {l : List (List O3)}, codesE l = 0 → ∀ c ∈ l, (chk c).2 = 0
  | [], _, c, hc => by simp at hc
  | x :: l, h, c, hc => by
    rw [codesE] at h
    by_cases hx : (chk x).2 = 0
    · rw [if_pos hx] at h
      rcases List.mem_cons.1 hc with rfl | hc
      · exact hx
      · exact codesE_zero h c hc
    · rw [if_neg hx] at h
      exact absurd h hx
theorem codesE_skip : ∀ (l : List (List O3)) (k : Nat), (∀ (j : Nat) c, j < k → l[j]? = some c → (chk c).2 = 0) → codesE l = codesE (l.drop k)
  | l, 0, _ => by simp
  | [], k + 1, _ => by simp
  | x :: l, k + 1, h => by
    have hx : (chk x).2 = 0 := h 0 x (by omega) rfl
    rw [codesE, if_pos hx, List.drop_succ_cons]
    exact codesE_skip l k (fun j c hj hc => h (j + 1) c (by omega) (by simpa using hc))
theorem codesE_hit {l : List (List O3)} {k : Nat} {c : List O3} (h : ∀ (j : Nat) c, j < k → l[j]? = some c → (chk c).2 = 0) (hc : l[k]? = some c) (hb : (chk c).2 ≠ 0) : codesE l = (chk c).2 := by
  rw [codesE_skip l k h]
  obtain ⟨hk, rfl⟩ := List.getElem?_eq_some_iff.1 hc
  rw [List.drop_eq_getElem_cons hk, codesE, if_neg hb]
theorem codesE_ok {l : List (List O3)} (h : ∀ (j : Nat) c, j < l.length → l[j]? = some c → (chk c).2 = 0) : codesE l = 0 := by
  rw [codesE_skip l l.length h]
  simp [codesE]
theorem portsAny_skip (ws : List W4) : ∀ (l : List (List O3)) (k i : Nat), (∀ (j : Nat) c, j < k → l[j]? = some c → portsB ws (i + j) c = false) → portsAny ws i l = portsAny ws (i + k) (l.drop k)
  | l, 0, i, _ => by simp
  | [], k + 1, i, _ => by simp [portsAny]
  | x :: l, k + 1, i, h => by
    have hx : portsB ws i x = false := h 0 x (by omega) rfl
    rw [portsAny, hx, Bool.false_or, List.drop_succ_cons, show i + (k + 1) = i + 1 + k by omega]
    exact portsAny_skip ws l k (i + 1) (fun j c hj hc => by rw [show i + 1 + j = i + (j + 1) by omega]; exact h (j + 1) c (by omega) (by simpa using hc))
theorem portsAny_hit {ws : List W4} {l : List (List O3)} {k : Nat} {c : List O3} (h : ∀ (j : Nat) c, j < k → l[j]? = some c → portsB ws j c = false) (hc : l[k]? = some c) (hb : portsB ws k c = true) : portsAny ws 0 l = true := by
  rw [portsAny_skip ws l k 0 (fun j c hj hx => by rw [Nat.zero_add]; exact h j c hj hx), Nat.zero_add]
  obtain ⟨hk, rfl⟩ := List.getElem?_eq_some_iff.1 hc
  rw [List.drop_eq_getElem_cons hk, portsAny, hb, Bool.true_or]
theorem portsAny_ok {ws : List W4} {l : List (List O3)} (h : ∀ (j : Nat) c, j < l.length → l[j]? = some c → portsB ws j c = false) : portsAny ws 0 l = false := by
  rw [portsAny_skip ws l l.length 0 (fun j c hj hx => by rw [Nat.zero_add]; exact h j c hj hx)]
  simp [portsAny]

/-! Lines. -/
def wFrame : List UInt8 := [102, 114, 97, 109, 101]
def wSpan : List UInt8 := [115, 112, 97, 110]
def wWire : List UInt8 := [119, 105, 114, 101]
def wRoom : List UInt8 := [114, 111, 111, 109]
def frameL (n : Int) : List UInt8 := wFrame ++ tail [n]
def spanL (s : S3) : List UInt8 := wSpan ++ tail [s.1, s.2.1, s.2.2]
def wireL (x : W4) : List UInt8 := wWire ++ tail [x.1, x.2.1, x.2.2.1, x.2.2.2]
/-- An op's line, without its end. -/
def opL (o : O3) : List UInt8 := nameB o.1 ++ tail (numsB o)
def roomL (c : List O3) : List (List UInt8) := wRoom :: c.map opL
/-- The lines of a plan, without their ends. -/
def planL (p : PD) : List (List UInt8) := frameL p.ticks :: (p.spans.map spanL ++ (p.wires.map wireL ++ p.code.flatMap roomL))
/-- Lines with their ends, as a text. -/
def endL (ls : List (List UInt8)) : List UInt8 := ls.flatMap (· ++ [10])
def planB (p : PD) : List UInt8 := endL (planL p)

/-! A text as a plan. -/
def spanOf (u : List UInt8) : Option S3 := match bodyB u with
  | some (p, [a, b, c]) => if p = wSpan then some (a, b, c) else none
  | _ => none
def wireOf (u : List UInt8) : Option W4 := match bodyB u with
  | some (p, [a, b, c, d]) => if p = wWire then some (a, b, c, d) else none
  | _ => none
def frameOf (u : List UInt8) : Option Int := match bodyB u with
  | some (p, [a]) => if p = wFrame then some a else none
  | _ => none
def takeF {α : Type} (f : List UInt8 → Option α) : List (List UInt8) → List α × List (List UInt8)
  | [] => ([], [])
  | u :: r => match f u with
    | none => ([], u :: r)
    | some s => (s :: (takeF f r).1, (takeF f r).2)
/-- One op more, of the last room. -/
def onto (acc : List (List O3)) (o : O3) : Option (List (List O3)) := match acc.getLast? with
  | none => none
  | some c => some (acc.dropLast ++ [c ++ [o]])
def roomsOf : List (List O3) → List (List UInt8) → Option (List (List O3))
  | acc, [] => some acc
  | acc, u :: r => if u = wRoom then roomsOf (acc ++ [[]]) r else match opRead (u ++ [10]) with
    | none => none
    | some o => match onto acc o with
      | none => none
      | some a => roomsOf a r
/-- Lines, without their ends, as a plan. -/
def planOf : List (List UInt8) → Option PD
  | [] => none
  | u :: r => match frameOf u with
    | none => none
    | some n => match roomsOf [] (takeF wireOf (takeF spanOf r).2).2 with
      | none => none
      | some cs => some ⟨cs, n, (takeF spanOf r).1, (takeF wireOf (takeF spanOf r).2).1⟩
/-- What is read, and the fault. -/
def planR (o : Option PD) : PD × Int := match o with
  | none => (PD.none, 2)
  | some p => if plchk p = 0 then (p, 0) else (PD.none, plchk p)
theorem planR_none : planR none = (PD.none, 2) := rfl
theorem planR_ok {p : PD} (h : plchk p = 0) : planR (some p) = (p, 0) := by
  show (if plchk p = 0 then (p, (0 : Int)) else (PD.none, plchk p)) = _
  rw [if_pos h]
theorem planR_bad {p : PD} (h : plchk p ≠ 0) : planR (some p) = (PD.none, plchk p) := by
  show (if plchk p = 0 then (p, (0 : Int)) else (PD.none, plchk p)) = _
  rw [if_neg h]
/-- A text as a plan, and the fault. -/
def planP (t : List UInt8) : PD × Int := if (cutB 10 t).getLast? = some [] then planR (planOf (cutB 10 t).dropLast) else (PD.none, 2)
theorem planP_open {t : List UInt8} {ps : List (List UInt8)} {q : List UInt8} (h : cutB 10 t = ps ++ [q]) (hq : q ≠ []) : planP t = (PD.none, 2) := by
  rw [planP, h, if_neg (by simpa using hq)]
theorem planP_shut {t : List UInt8} {ps : List (List UInt8)} (h : cutB 10 t = ps ++ [[]]) : planP t = planR (planOf ps) := by
  rw [planP, h, if_pos (by simp), List.dropLast_concat]
theorem takeF_yes {α : Type} {f : List UInt8 → Option α} {u : List UInt8} {s : α} (h : f u = some s) (r : List (List UInt8)) : takeF f (u :: r) = (s :: (takeF f r).1, (takeF f r).2) := by rw [takeF, h]
theorem takeF_no {α : Type} {f : List UInt8 → Option α} {u : List UInt8} (h : f u = none) (r : List (List UInt8)) : takeF f (u :: r) = ([], u :: r) := by rw [takeF, h]
end Go.Proofs.YtlegpedmfpbaiadDoor
namespace Go.Proofs.YtlegpedmfpbaiadDoor

/-- A line: its wire, what is there, what was lost. -/
structure LnD where
  w : W4
  xs : List Int
  ls : Int
def LnD.none : LnD := ⟨(0, 0, 0, 0), [], 0⟩
/-- What is there to be taken. -/
def headL (l : LnD) : Int × Bool := match l.xs with
  | [] => (0, false)
  | x :: _ => (x, true)
/-- Behind a take. -/
def restL (l : LnD) : LnD := match l.xs with
  | [] => l
  | _ :: ys => if l.w.2.2.1 = 2 then ⟨l.w, ys, l.ls⟩ else l
/-- Is what is sent there? -/
def fitL (l : LnD) : Bool := decide (l.w.2.2.1 = 1) || decide ((l.xs.length : Int) < l.w.2.2.2)
/-- Behind a send. -/
def putL (l : LnD) (n : Int) : LnD := if l.w.2.2.1 = 1 then ⟨l.w, [n], l.ls⟩ else if (l.xs.length : Int) < l.w.2.2.2 then ⟨l.w, l.xs ++ [n], l.ls⟩ else ⟨l.w, l.xs, l.ls + 1⟩
/-- A kernel: its rooms, its lines, its time. -/
structure KD where
  rooms : List St
  lines : List LnD
  time : Int
def stNew : St := ⟨0, fun _ => 0, false⟩
def newK (p : PD) : KD := ⟨p.code.map fun _ => stNew, p.wires.map fun x => ⟨x, [], 0⟩, 0⟩
def opAt (c : List O3) (s : St) : O3 := c.getD s.p.toNat (0, 0, 0)
def takesB (o : O3) (s : St) : Bool := !s.f && decide (o.1 = 9)
def lineAt (k : KD) (o : O3) : LnD := k.lines.getD o.2.2.toNat LnD.none
def gotK (k : KD) (o : O3) (s : St) : Int × Bool := if takesB o s = true then headL (lineAt k o) else (0, false)
/-- The lines behind what is taken. -/
def linesT (k : KD) (o : O3) (s : St) : List LnD := if takesB o s = true then k.lines.set o.2.2.toNat (restL (lineAt k o)) else k.lines
/-- .. and behind what is sent. -/
def linesS (ls : List LnD) (o : O3) (sent : Int) : List LnD := if 0 ≤ sent then ls.set o.2.2.toNat (putL (ls.getD o.2.2.toNat LnD.none) sent) else ls
/-- What came of it. -/
def cameK (ls : List LnD) (o : O3) (sent what : Int) : Int := if 0 ≤ sent ∧ fitL (ls.getD o.2.2.toNat LnD.none) = false then 3 else what
/-- A tick that a room has. -/
def turnK (p : PD) (k : KD) (r : Nat) : KD × Int × Int :=
  let c := p.code.getD r []
  let s := k.rooms.getD r stNew
  let o := opAt c s
  let g := gotK k o s
  (⟨k.rooms.set r (stepF o s c.length g.1 g.2), linesS (linesT k o s) o (sendF o s), k.time + 1⟩, s.p, cameK (linesT k o s) o (sendF o s) (whatF o s g.2))
/-- A tick; and what is told of it. -/
def tickK (p : PD) (sp : List S3) (k : KD) : KD × Int × Int × Int × Int :=
  let r := hold sp (k.time % p.ticks)
  if r < 0 then (⟨k.rooms, k.lines, k.time + 1⟩, k.time, r, 0, 0) else ((turnK p k r.toNat).1, k.time, r, (turnK p k r.toNat).2.1, (turnK p k r.toNat).2.2)

/-- A line that is right. -/
structure LnOk (l : LnD) (x : W4) : Prop where
  w : l.w = x
  xs : ∀ n ∈ l.xs, 0 ≤ n ∧ n ≤ 999
  one : x.2.2.1 = 1 → l.xs.length ≤ 1
  deep : x.2.2.1 = 2 → (l.xs.length : Int) ≤ x.2.2.2
  ls : 0 ≤ l.ls
/-- A kernel that is right. -/
structure KOk (p : PD) (k : KD) : Prop where
  rl : k.rooms.length = p.code.length
  ll : k.lines.length = p.wires.length
  rooms : ∀ (i : Nat) c s, p.code[i]? = some c → k.rooms[i]? = some s → stOk s c.length = true
  lines : ∀ (i : Nat) l x, k.lines[i]? = some l → p.wires[i]? = some x → LnOk l x
  lost : ∀ l ∈ k.lines, l.ls ≤ k.time
  time : 0 ≤ k.time
theorem any_of_all {α : Type} {f : α → Bool} {l : List α} (h : l.any f = false) {x : α} (hx : x ∈ l) : f x = false := by
  rw [List.any_eq_false] at h
  simpa using h x hx
theorem wiresB_mem {what : Int} {c : List O3} {o : O3} (ho : o ∈ c) (h1 : o.1 = what) (h2 : 0 ≤ o.2.2) (h3 : o.2.2 < 12) : o.2.2 ∈ wiresB what c := by
  unfold wiresB pickN
  rw [List.mem_map]
  refine ⟨o.2.2.toNat, ?_, by simp; omega⟩
  rw [List.mem_filter, List.mem_range'_1]
  refine ⟨by omega, List.any_eq_true.2 ⟨o, ho, ?_⟩⟩
  simp [onW, h1]
  omega
theorem port_wire {at' : W4 → Int} {ws : List W4} {i : Nat} {z : Int} (h : portB at' ws i z = false) : ∃ x, ws[z.toNat]? = some x ∧ at' x = (i : Int) := by
  unfold portB at h
  cases hx : ws[z.toNat]? with
  | none => rw [hx] at h; cases h
  | some x =>
    rw [hx] at h
    exact ⟨x, rfl, by simpa using h⟩
theorem portsAny_false : ∀ {ws : List W4} {l : List (List O3)} {i : Nat}, portsAny ws i l = false → ∀ (j : Nat) c, l[j]? = some c → portsB ws (i + j) c = false
  | ws, [], i, _, j, c, hc => by simp at hc
  | ws, x :: l, i, h, j, c, hc => by
    rw [portsAny, Bool.or_eq_false_iff] at h
    cases j with
    | zero => simp at hc; subst hc; exact h.1
    | succ j =>
      have := portsAny_false h.2 j c (by simpa using hc)
      rw [show i + (j + 1) = i + 1 + j by omega]
      exact this
/-- What a right plan says of an op that sends, or takes. -/
theorem op_wire {p : PD} (h : plchk p = 0) {r : Nat} {c : List O3} {o : O3} (hc : p.code[r]? = some c) (ho : o ∈ c) : (o.1 = 8 → ∃ x, p.wires[o.2.2.toNat]? = some x ∧ x.1 = (r : Int)) ∧ (o.1 = 9 → ∃ x, p.wires[o.2.2.toNat]? = some x ∧ x.2.1 = (r : Int)) := by
  obtain ⟨_, _, _, _, _, _, hcd, hpt⟩ := plchk_zero h
  have hck := codesE_zero hcd c (List.mem_of_getElem? hc)
  obtain ⟨_, hl20, hok⟩ := chk_zero hck
  have hr := ok3_range (hok o ho)
  have hp := portsAny_false hpt r c hc
  rw [Nat.zero_add] at hp
  unfold portsB at hp
  rw [Bool.or_eq_false_iff] at hp
  refine ⟨fun h8 => ?_, fun h9 => ?_⟩
  · have hb : 0 ≤ o.2.2 ∧ o.2.2 < 12 := by simp [h8, bB] at hr; omega
    exact port_wire (any_of_all hp.1 (wiresB_mem ho h8 hb.1 hb.2))
  · have hb : 0 ≤ o.2.2 ∧ o.2.2 < 12 := by simp [h9, bB] at hr; omega
    exact port_wire (any_of_all hp.2 (wiresB_mem ho h9 hb.1 hb.2))
theorem new_ok {p : PD} (h : plchk p = 0) : KOk p (newK p) := by
  obtain ⟨_, _, _, hw, _, _, hcd, _⟩ := plchk_zero h
  refine ⟨by simp [newK], by simp [newK], fun i c s hc hs => ?_, fun i l x hl hx => ?_, fun l hl => ?_, by simp [newK]⟩
  · simp only [newK, List.getElem?_map, hc, Option.map_some, Option.some.injEq] at hs
    subst hs
    have hck := chk_zero (codesE_zero hcd c (List.mem_of_getElem? hc))
    rw [stOk_iff]
    have := hck.1
    exact ⟨by simp [stNew], by simp [stNew]; omega, fun i _ => by simp [stNew]⟩
  · simp only [newK, List.getElem?_map, hx, Option.map_some, Option.some.injEq] at hl
    subst hl
    have := (wschk_ok hw).2 x (List.mem_of_getElem? hx)
    refine ⟨rfl, fun n hn => by simp at hn, fun _ => by simp, fun h2 => ?_, by simp⟩
    rcases wchk_kind this with ⟨h1, _⟩ | ⟨_, h3, _⟩
    · omega
    · simp
      omega
  · simp only [newK, List.mem_map] at hl
    obtain ⟨x, _, rfl⟩ := hl
    simp [newK]
end Go.Proofs.YtlegpedmfpbaiadDoor
namespace Go.Proofs.YtlegpedmfpbaiadDoor
open Go.RowKit

/-- Codes that can be read. -/
def Cds (w : World) (v : Value) (cs : List (List O3)) : Prop :=
  (cs = [] ∧ ∃ ao cap, v = .slice ao 0 cap) ∨ ∃ b off cap, v = .slice (some ⟨b, off, none⟩) cs.length cap ∧ cs.length ≤ cap ∧ b < w.heap.size ∧ ∀ (i : Nat) c, cs[i]? = some c → ∃ u, w.cell? ⟨b, off + i, none⟩ = some u ∧ Ops w u c
theorem Cds.all {w w' : World} {v : Value} {cs : List (List O3)} (h : Cds w v cs) (hb : Below w.heap.size w w') : Cds w' v cs := by
  rcases h with h | ⟨b, off, cap, rfl, hcap, hlt, hc⟩
  · exact Or.inl h
  · refine Or.inr ⟨b, off, cap, rfl, hcap, Nat.lt_of_lt_of_le hlt hb.size, fun i c hi => ?_⟩
    obtain ⟨u, h1, h2⟩ := hc i c hi
    exact ⟨u, (hb.cell (p := ⟨b, _, none⟩) hlt).trans h1, h2.all hb⟩
theorem Cds.form {w : World} {v : Value} {cs : List (List O3)} (h : Cds w v cs) : ∃ ao cap, v = .slice ao cs.length cap := by
  rcases h with ⟨rfl, ao, cap, rfl⟩ | ⟨b, off, cap, rfl, _⟩
  · exact ⟨ao, cap, rfl⟩
  · exact ⟨_, cap, rfl⟩
theorem Cds.at {w : World} {ao : Option Addr} {cap : Nat} {cs : List (List O3)} (h : Cds w (.slice ao cs.length cap) cs) {i : Nat} (hi : i < cs.length) : ∃ b off u n g c, ao = some ⟨b, off, none⟩ ∧ b < w.heap.size ∧ cs[i]? = some c ∧ w.cell? ⟨b, off + i, none⟩ = some (.slice u n g) ∧ n = c.length ∧ Ops w (.slice u n g) c := by
  rcases h with ⟨rfl, _⟩ | ⟨b, off, cap', e, _, hlt, hc⟩
  · simp at hi
  · injection e with e1
    obtain ⟨u, h1, h2⟩ := hc i _ (List.getElem?_eq_getElem hi)
    obtain ⟨ua, uc, rfl⟩ := h2.form
    exact ⟨b, off, ua, _, uc, _, e1, hlt, List.getElem?_eq_getElem hi, h1, rfl, h2⟩
theorem Sps.at {w : World} {ao : Option Addr} {cap : Nat} {l : List S3} (h : Sps w (.slice ao l.length cap) l) {i : Nat} (hi : i < l.length) : ∃ b off f t r, ao = some ⟨b, off, none⟩ ∧ b < w.heap.size ∧ l[i]? = some (f, t, r) ∧ w.cell? ⟨b, off + i * 3, none⟩ = some (.int .i64 f) ∧ w.cell? ⟨b, off + i * 3 + 1, none⟩ = some (.int .i64 t) ∧ w.cell? ⟨b, off + i * 3 + 2, none⟩ = some (.int .i64 r) := by
  rcases h with ⟨rfl, _⟩ | ⟨b, off, cap', e, _, hlt, hc⟩
  · simp at hi
  · injection e with e1
    obtain ⟨⟨f, t, r⟩, hx'⟩ : ∃ x : S3, l[i]? = some x := ⟨l[i], List.getElem?_eq_getElem hi⟩
    obtain ⟨h0, h1, h2⟩ := hc i _ hx'
    exact ⟨b, off, f, t, r, e1, hlt, hx', h0, h1, h2⟩
/-- A plan's parts can be read. -/
structure Pln (w : World) (vc vs vw : Value) (p : PD) : Prop where
  code : Cds w vc p.code
  spans : Sps w vs p.spans
  wires : Wrs w vw p.wires
theorem Pln.all {w w' : World} {vc vs vw : Value} {p : PD} (h : Pln w vc vs vw p) (hb : Below w.heap.size w w') : Pln w' vc vs vw p := ⟨h.code.all hb, h.spans.all hb, h.wires.all hb⟩
/-- A plan as a value. -/
def plV (vc : Value) (n : Int) (vs vw : Value) : Value := .agg #[vc, .int .i64 n, vs, vw]
/-- Behind the box of a plan. -/
def Bx (w W : World) (vc : Value) (n : Int) (vs vw : Value) : Prop := Below (w.heap.size + 1) (w.alloc (.cells #[vc, .int .i64 n, vs, vw] 31)) W
theorem Bx.first (w : World) (vc : Value) (n : Int) (vs vw : Value) : Bx w (w.alloc (.cells #[vc, .int .i64 n, vs, vw] 31)) vc n vs vw := Below.refl _ _
theorem Bx.size {w W : World} {vc vs vw : Value} {n : Int} (h : Bx w W vc n vs vw) : w.heap.size + 1 ≤ W.heap.size := by
  have := Below.size h
  simpa using this
theorem Bx.step {w W W' : World} {vc vs vw : Value} {n : Int} (h : Bx w W vc n vs vw) (hb : Below W.heap.size W W') : Bx w W' vc n vs vw := Below.trans h (hb.mono h.size)
theorem Bx.dN {w W : World} {vc vs vw : Value} {n : Int} (h : Bx w W vc n vs vw) (k : Nat) : Bx w (W.drewN k) vc n vs vw := below_dN h k
theorem Bx.below {w W : World} {vc vs vw : Value} {n : Int} (h : Bx w W vc n vs vw) : Below w.heap.size w W := ((Below.refl _ _).alloc (Nat.le_refl _) _).trans (Below.mono h (Nat.le_succ _))
theorem Bx.c0 {w W : World} {vc vs vw : Value} {n : Int} (h : Bx w W vc n vs vw) : W.cell? ⟨w.heap.size, 0, none⟩ = some vc := (Below.cell h (p := ⟨w.heap.size, 0, none⟩) (by simp)).trans (by simp)
theorem Bx.c1 {w W : World} {vc vs vw : Value} {n : Int} (h : Bx w W vc n vs vw) : W.cell? ⟨w.heap.size, 1, none⟩ = some (.int .i64 n) := (Below.cell h (p := ⟨w.heap.size, 1, none⟩) (by simp)).trans (by simp)
theorem Bx.c2 {w W : World} {vc vs vw : Value} {n : Int} (h : Bx w W vc n vs vw) : W.cell? ⟨w.heap.size, 2, none⟩ = some vs := (Below.cell h (p := ⟨w.heap.size, 2, none⟩) (by simp)).trans (by simp)
theorem Bx.c3 {w W : World} {vc vs vw : Value} {n : Int} (h : Bx w W vc n vs vw) : W.cell? ⟨w.heap.size, 3, none⟩ = some vw := (Below.cell h (p := ⟨w.heap.size, 3, none⟩) (by simp)).trans (by simp)
theorem any_false {α : Type} {f : α → Bool} {l : List α} (h : ∀ (j : Nat) y, j < l.length → l[j]? = some y → f y = false) : l.any f = false := by
  rw [List.any_eq_false]
  intro x hx
  obtain ⟨j, hj⟩ := List.mem_iff_getElem?.1 hx
  rw [h j x (List.getElem?_eq_some_iff.1 hj).1 hj]
  simp
theorem any_hit {α : Type} {f : α → Bool} {l : List α} {k : Nat} {x : α} (h : l[k]? = some x) (hf : f x = true) : l.any f = true := List.any_eq_true.2 ⟨x, List.mem_of_getElem? h, hf⟩
/-- One more that is not. -/
theorem upto_next {α : Type} {f : α → Bool} {l : List α} {k : Nat} {x : α} (h : ∀ (j : Nat) y, j < k → l[j]? = some y → f y = false) (hx : l[k]? = some x) (hf : f x = false) : ∀ (j : Nat) y, j < k + 1 → l[j]? = some y → f y = false := fun j y hj hy => by
  by_cases hjk : j < k
  · exact h j y hjk hy
  · obtain rfl : j = k := by omega
    rw [hx] at hy
    obtain rfl := Option.some.inj hy
    exact hf
/-- A plan whose parts all lie from a block on: it stays where only what lies before it is written. -/
def PlnF (B : Nat) (w : World) (vc vs vw : Value) (p : PD) : Prop := ∀ w', w.heap.size ≤ w'.heap.size → (∀ b o, B ≤ b → w'.cell? ⟨b, o, none⟩ = w.cell? ⟨b, o, none⟩) → Pln w' vc vs vw p
theorem PlnF.here {B : Nat} {w : World} {vc vs vw : Value} {p : PD} (h : PlnF B w vc vs vw p) : Pln w vc vs vw p := h w (Nat.le_refl _) (fun _ _ _ => rfl)
end Go.Proofs.YtlegpedmfpbaiadDoor
namespace Go.Proofs.YtlegpedmfpbaiadDoor
open Go.RowKit

/-- The ports of a room, one kind of them, as they are gone over. -/
theorem ports_bad {at' : W4 → Int} {ws : List W4} {i : Nat} {zs : List Int} {k : Nat} {z : Int} (hz : zs[k]? = some z) (h : portB at' ws i z = true) : zs.any (portB at' ws i) = true := any_hit hz h
theorem wires_mem {what : Int} {c : List O3} {z : Int} (h : z ∈ wiresB what c) : 0 ≤ z ∧ z < 12 := by
  unfold wiresB pickN at h
  simp only [List.mem_map, List.mem_filter, List.mem_range'_1] at h
  obtain ⟨a, ⟨⟨_, h2⟩, _⟩, rfl⟩ := h
  simp
  omega
theorem port_out {ws : List W4} {i : Nat} {c : List O3} (h : (wiresB 8 c).any (portB (·.1) ws i) = true) : portsB ws i c = true := by unfold portsB; rw [h]; rfl
theorem port_in {ws : List W4} {i : Nat} {c : List O3} (h : (wiresB 9 c).any (portB (·.2.1) ws i) = true) : portsB ws i c = true := by unfold portsB; rw [h, Bool.or_true]
theorem ports_next {ws : List W4} {l : List (List O3)} {k : Nat} {c : List O3} (h : ∀ (j : Nat) y, j < k → l[j]? = some y → portsB ws j y = false) (hx : l[k]? = some c) (hf : portsB ws k c = false) : ∀ (j : Nat) y, j < k + 1 → l[j]? = some y → portsB ws j y = false := fun j y hj hy => by
  by_cases hjk : j < k
  · exact h j y hjk hy
  · obtain rfl : j = k := by omega
    rw [hx] at hy
    obtain rfl := Option.some.inj hy
    exact hf
theorem stp_of_ints {w : World} {v : Value} {zs : List Int} (h : Ints w v zs) : Stp w v zs := by
  rcases h with ⟨rfl, rfl⟩ | ⟨a, cap, rfl, ha, hc⟩
  · exact Or.inl ⟨rfl, _, _, rfl⟩
  · cases zs with
    | nil => exact Or.inl ⟨rfl, _, _, rfl⟩
    | cons z zs =>
      have h0 := hc 0 z rfl
      have ea : a = ⟨a.block, a.off, none⟩ := by
        obtain ⟨b, o, s⟩ := a
        cases s with
        | none => rfl
        | some s =>
          exfalso
          unfold Addr.add at h0
          simp [World.cell?] at h0
          split at h0 <;> simp at h0
      refine Or.inr ⟨a.block, a.off, cap, by rw [← ea], ha, fun i x hx => ?_⟩
      have := hc i x hx
      rw [ea, Addr.add_lit] at this
      exact this
end Go.Proofs.YtlegpedmfpbaiadDoor
namespace Go.Proofs.YtlegpedmfpbaiadDoor

theorem headL_ok {l : LnD} {x : W4} (h : LnOk l x) : (headL l).2 = true → 0 ≤ (headL l).1 ∧ (headL l).1 ≤ 999 := by
  unfold headL
  intro hh
  cases hx : l.xs with
  | nil => rw [hx] at hh; cases hh
  | cons n ys => exact h.xs n (by rw [hx]; simp)
theorem restL_ok {l : LnD} {x : W4} (h : LnOk l x) : LnOk (restL l) x := by
  unfold restL
  cases hx : l.xs with
  | nil => exact h
  | cons n ys =>
    simp only
    split
    · refine ⟨h.w, fun m hm => h.xs m (by rw [hx]; simp [hm]), fun h1 => ?_, fun h2 => ?_, h.ls⟩
      · have := h.one h1
        rw [hx, List.length_cons] at this
        simp only
        omega
      · have := h.deep h2
        rw [hx, List.length_cons] at this
        simp only
        omega
    · exact h
theorem restL_ls (l : LnD) : (restL l).ls = l.ls := by
  unfold restL
  split
  · rfl
  · split <;> rfl
theorem putL_ok {l : LnD} {x : W4} {n : Int} (h : LnOk l x) (hn : 0 ≤ n ∧ n ≤ 999) : LnOk (putL l n) x := by
  unfold putL
  split
  · rename_i h1
    rw [h.w] at h1
    exact ⟨h.w, fun m hm => by simp at hm; subst hm; exact hn, fun _ => by simp, fun h2 => by omega, h.ls⟩
  · rename_i h1
    rw [h.w] at h1
    split
    · rename_i h2
      rw [h.w] at h2
      refine ⟨h.w, fun m hm => ?_, fun h3 => absurd h3 h1, fun _ => by simp; omega, h.ls⟩
      rcases List.mem_append.1 hm with hm | hm
      · exact h.xs m hm
      · simp at hm; subst hm; exact hn
    · exact ⟨h.w, h.xs, fun h3 => absurd h3 h1, h.deep, by have := h.ls; simp; omega⟩
theorem putL_ls (l : LnD) (n : Int) : (putL l n).ls ≤ l.ls + 1 := by
  unfold putL
  split
  · simp only
    omega
  · split
    · simp only
      omega
    · simp
/-- Lines of which one is another one. -/
theorem lines_set {ls : List LnD} {ws : List W4} {j : Nat} {l' : LnD} (h : ∀ (i : Nat) l x, ls[i]? = some l → ws[i]? = some x → LnOk l x) (h' : ∀ x, ws[j]? = some x → LnOk l' x) : ∀ (i : Nat) l x, (ls.set j l')[i]? = some l → ws[i]? = some x → LnOk l x := fun i l x hl hx => by
  by_cases hij : j = i
  · subst hij
    have hlt : j < ls.length := by
      have := (List.getElem?_eq_some_iff.1 hl).1
      simpa using this
    rw [List.getElem?_set_self hlt] at hl
    obtain rfl := Option.some.inj hl
    exact h' x hx
  · rw [List.getElem?_set_ne hij] at hl
    exact h i l x hl hx
structure Turn (p : PD) (k : KD) (r : Nat) (c : List O3) (s : St) (o : O3) : Prop where
  hc : p.code[r]? = some c
  hs : k.rooms[r]? = some s
  ho : c[s.p.toNat]? = some o
  ck : (chk c).2 = 0
  st : stOk s c.length = true
  ok : ok3 c.length o = true
theorem turn_of {p : PD} {k : KD} (h : plchk p = 0) (hk : KOk p k) {r : Nat} (hr : r < p.code.length) : ∃ c s o, Turn p k r c s o := by
  obtain ⟨_, _, _, _, _, _, hcd, _⟩ := plchk_zero h
  have hc : p.code[r]? = some p.code[r] := List.getElem?_eq_getElem hr
  have hs : k.rooms[r]? = some (k.rooms[r]'(by rw [hk.rl]; exact hr)) := List.getElem?_eq_getElem _
  have hck := codesE_zero hcd _ (List.mem_of_getElem? hc)
  have hst := hk.rooms r _ _ hc hs
  have hp := stOk_iff.1 hst
  have hlt : (k.rooms[r]'(by rw [hk.rl]; exact hr)).p.toNat < p.code[r].length := by omega
  exact ⟨_, _, _, hc, hs, List.getElem?_eq_getElem hlt, hck, hst, (chk_zero hck).2.2 _ (List.getElem_mem hlt)⟩
theorem Turn.at {p : PD} {k : KD} {r : Nat} {c : List O3} {s : St} {o : O3} (h : Turn p k r c s o) : p.code.getD r [] = c ∧ k.rooms.getD r stNew = s ∧ opAt c s = o := by
  unfold opAt
  simp [List.getD, h.hc, h.hs, h.ho]
/-- What is there to be taken is a number of a room. -/
theorem got_ok {p : PD} {k : KD} (hp : plchk p = 0) (hk : KOk p k) {r : Nat} {c : List O3} {s : St} {o : O3} (h : Turn p k r c s o) : (gotK k o s).2 = true → 0 ≤ (gotK k o s).1 ∧ (gotK k o s).1 ≤ 999 := by
  unfold gotK
  split
  · rename_i ht
    unfold takesB at ht
    simp only [Bool.and_eq_true, decide_eq_true_eq] at ht
    obtain ⟨x, hx, _⟩ := (op_wire hp h.hc (List.mem_of_getElem? h.ho)).2 ht.2
    have hlt : o.2.2.toNat < k.lines.length := by rw [hk.ll]; exact (List.getElem?_eq_some_iff.1 hx).1
    have hl : k.lines[o.2.2.toNat]? = some k.lines[o.2.2.toNat] := List.getElem?_eq_getElem hlt
    have e : lineAt k o = k.lines[o.2.2.toNat] := by simp [lineAt, List.getD, hl]
    rw [e]
    exact headL_ok (hk.lines _ _ _ hl hx)
  · intro hh; cases hh
theorem stepK_ok {p : PD} {k : KD} {r : Nat} {c : List O3} {s : St} {o : O3} (h : Turn p k r c s o) {got : Int} {is : Bool} (hg : is = true → 0 ≤ got ∧ got ≤ 999) : stOk (stepF o s c.length got is) c.length = true := by
  have hp := stOk_iff.1 h.st
  have hr := ok3_range h.ok
  unfold stepF
  split
  · exact h.st
  · rw [stOk_iff]
    have hn := nextF_ok (o := o) (s := s) (n := c.length) (is := is) hp.1 hp.2.1 (fun hh => by rcases hh with h6 | h7 <;> simp_all [bB])
    refine ⟨hn.1, hn.2, cellsF_ok hp.2.2 (fun h1 => by simp [h1, bB] at hr; omega) (fun h2 => by simp [h2, bB] at hr; omega) hg⟩
theorem sendK_range {p : PD} {k : KD} {r : Nat} {c : List O3} {s : St} {o : O3} (h : Turn p k r c s o) : -1 ≤ sendF o s ∧ sendF o s ≤ 999 ∧ (0 ≤ sendF o s → o.1 = 8 ∧ s.f = false) := by
  have hp := stOk_iff.1 h.st
  have hs := ok3_small (o := o) (ops := c.length) (by have := (chk_zero h.ck).2.1; omega) h.ok
  unfold sendF
  split
  · exact ⟨by omega, by omega, fun hh => by omega⟩
  · rename_i hf
    have := sentF_ok (o := o) hp.2.2 (by omega)
    exact ⟨this.1, this.2, fun hh => ⟨sentF_send hh, by simpa using hf⟩⟩
theorem linesT_ok {p : PD} {k : KD} (hk : KOk p k) (o : O3) (s : St) : (linesT k o s).length = p.wires.length ∧ (∀ (i : Nat) l x, (linesT k o s)[i]? = some l → p.wires[i]? = some x → LnOk l x) ∧ ∀ l ∈ linesT k o s, l.ls ≤ k.time := by
  unfold linesT
  split
  · refine ⟨by rw [List.length_set]; exact hk.ll, lines_set hk.lines (fun x hx => ?_), fun l hl => ?_⟩
    · have hlt : o.2.2.toNat < k.lines.length := by rw [hk.ll]; exact (List.getElem?_eq_some_iff.1 hx).1
      have hl : k.lines[o.2.2.toNat]? = some k.lines[o.2.2.toNat] := List.getElem?_eq_getElem hlt
      have e : lineAt k o = k.lines[o.2.2.toNat] := by simp [lineAt, List.getD, hl]
      rw [e]
      exact restL_ok (hk.lines _ _ _ hl hx)
    · rcases List.mem_or_eq_of_mem_set hl with h1 | h1
      · exact hk.lost l h1
      · rw [h1, restL_ls]
        unfold lineAt
        rw [List.getD]
        cases hx : k.lines[o.2.2.toNat]? with
        | none => have := hk.time; simpa [LnD.none] using this
        | some y => exact hk.lost y (List.mem_of_getElem? hx)
  · exact ⟨hk.ll, hk.lines, hk.lost⟩
theorem turn_ok {p : PD} {k : KD} (hp : plchk p = 0) (hk : KOk p k) {r : Nat} (hr : r < p.code.length) : KOk p (turnK p k r).1 := by
  obtain ⟨c, s, o, h⟩ := turn_of hp hk hr
  obtain ⟨e1, e2, e3⟩ := h.at
  obtain ⟨t1, t2, t3⟩ := linesT_ok hk o s
  have hsr := sendK_range h
  unfold turnK
  simp only [e1, e2, e3]
  refine ⟨by simp [hk.rl], ?_, fun i c' s' hc' hs' => ?_, ?_, ?_, by have := hk.time; simp; omega⟩
  · simp only
    unfold linesS
    split <;> simp [t1]
  · simp only at hs'
    by_cases hir : r = i
    · subst hir
      rw [List.getElem?_set_self (by rw [hk.rl]; exact hr)] at hs'
      obtain rfl := Option.some.inj hs'
      rw [h.hc] at hc'
      obtain rfl := Option.some.inj hc'
      exact stepK_ok h (got_ok hp hk h)
    · rw [List.getElem?_set_ne hir] at hs'
      exact hk.rooms i c' s' hc' hs'
  · simp only
    unfold linesS
    split
    · rename_i h0
      refine lines_set t2 (fun x hx => ?_)
      have hlt : o.2.2.toNat < (linesT k o s).length := by rw [t1]; exact (List.getElem?_eq_some_iff.1 hx).1
      have hl : (linesT k o s)[o.2.2.toNat]? = some (linesT k o s)[o.2.2.toNat] := List.getElem?_eq_getElem hlt
      have e : (linesT k o s).getD o.2.2.toNat LnD.none = (linesT k o s)[o.2.2.toNat] := by simp [List.getD, hl]
      rw [e]
      exact putL_ok (t2 _ _ _ hl hx) ⟨h0, hsr.2.1⟩
    · exact t2
  · simp only
    intro l hl
    unfold linesS at hl
    split at hl
    · rcases List.mem_or_eq_of_mem_set hl with h1 | h1
      · have := t3 l h1
        omega
      · have h2 := putL_ls ((linesT k o s).getD o.2.2.toNat LnD.none) (sendF o s)
        rw [← h1] at h2
        rw [List.getD] at h2
        cases hx : (linesT k o s)[o.2.2.toNat]? with
        | none => rw [hx] at h2; have := hk.time; simp [LnD.none] at h2; omega
        | some y => rw [hx] at h2; have := t3 y (List.mem_of_getElem? hx); simp at h2; omega
    · have := t3 l hl
      omega
theorem who_room {p : PD} (hp : plchk p = 0) (t : Int) : -1 ≤ hold p.spans t ∧ (0 ≤ hold p.spans t → (hold p.spans t).toNat < p.code.length) := by
  obtain ⟨_, _, hf, _, hs, _, _, _⟩ := plchk_zero hp
  have hr := hold_range (t := t) (fchk_zero hf).2.2.2.1
  refine ⟨hr.1, fun h0 => ?_⟩
  cases hi : p.spans.findIdx? (hits t) with
  | none => rw [hold_none hi] at h0; omega
  | some i =>
    have hi' := hi
    rw [List.findIdx?_eq_some_iff_getElem] at hi'
    obtain ⟨hlt, _⟩ := hi'
    have hg : p.spans[i]? = some p.spans[i] := List.getElem?_eq_getElem hlt
    rw [hold_some hi hg] at h0 ⊢
    have := any_of_all hs (List.mem_of_getElem? hg)
    simp [spanOut] at this
    omega
theorem tick_ok {p : PD} {k : KD} (hp : plchk p = 0) (hk : KOk p k) : KOk p (tickK p p.spans k).1 := by
  have hw := who_room hp (k.time % p.ticks)
  unfold tickK
  simp only
  split
  · exact ⟨hk.rl, hk.ll, hk.rooms, hk.lines, fun l hl => by have := hk.lost l hl; simp; omega, by have := hk.time; simp; omega⟩
  · exact turn_ok hp hk (hw.2 (by omega))
theorem tick_time (p : PD) (sp : List S3) (k : KD) : (tickK p sp k).1.time = k.time + 1 := by
  unfold tickK
  simp only
  split <;> rfl
end Go.Proofs.YtlegpedmfpbaiadDoor
namespace Go.Proofs.YtlegpedmfpbaiadDoor
open Go.RowKit

/-- What a call leaves alone: all blocks that were there, but those that are named. -/
structure KTouch (M : List Nat) (w w' : World) : Prop where
  os : w'.os = w.os
  tape : w'.tape = w.tape
  output : w'.output = w.output
  size : w.heap.size ≤ w'.heap.size
  block : ∀ k, k < w.heap.size → k ∉ M → w'.heap[k]? = w.heap[k]?
theorem KTouch.refl (M : List Nat) (w : World) : KTouch M w w := ⟨rfl, rfl, rfl, Nat.le_refl _, fun _ _ _ => rfl⟩
theorem KTouch.trans {M : List Nat} {a b c : World} (h : KTouch M a b) (g : KTouch M b c) : KTouch M a c :=
  ⟨g.os.trans h.os, g.tape.trans h.tape, g.output.trans h.output, Nat.le_trans h.size g.size, fun k hk hm => (g.block k (Nat.lt_of_lt_of_le hk h.size) hm).trans (h.block k hk hm)⟩
theorem KTouch.of {M : List Nat} {w w' : World} (h : Below w.heap.size w w') : KTouch M w w' := ⟨h.os, h.tape, h.output, h.size, fun k hk _ => h.block k hk⟩
theorem KTouch.set {M : List Nat} (w : World) {b : Nat} (hb : b ∈ M) (i : Nat) (v : Value) : KTouch M w (w.setCell ⟨b, i, none⟩ v) :=
  ⟨rfl, rfl, rfl, by simp, fun k _ hm => Below.heap_setCell _ _ _ _ (fun e => hm (by rw [show k = b from e]; exact hb))⟩
theorem KTouch.below {M : List Nat} {w w' : World} (h : KTouch M w w') {B : Nat} (hB : ∀ b ∈ M, B ≤ b) (hw : B ≤ w.heap.size) : Below B w w' :=
  ⟨h.os, h.tape, h.output, h.size, fun k hk => h.block k (by omega) (fun hm => by have := hB k hm; omega)⟩
theorem KTouch.drew {M : List Nat} {w w' : World} (h : KTouch M w w') : KTouch M w w'.drew := h.trans (KTouch.of (Below.refl _ _).drew)
theorem KTouch.more {M M' : List Nat} {w w' w'' : World} (h : KTouch M w w') (g : KTouch M' w' w'') (hn : ∀ m ∈ M', w.heap.size ≤ m) : KTouch M w w'' :=
  ⟨g.os.trans h.os, g.tape.trans h.tape, g.output.trans h.output, Nat.le_trans h.size g.size, fun k hk hm => (g.block k (Nat.lt_of_lt_of_le hk h.size) (fun hm' => by have := hn k hm'; omega)).trans (h.block k hk hm)⟩
theorem KTouch.mono {M M' : List Nat} {w w' : World} (h : KTouch M w w') (hm : ∀ m ∈ M, m ∈ M') : KTouch M' w w' := ⟨h.os, h.tape, h.output, h.size, fun k hk hn => h.block k hk (fun h2 => hn (hm k h2))⟩
/-- The cells of a state. -/
structure StC (w : World) (b o : Nat) (s : St) : Prop where
  p : w.cell? ⟨b, o, none⟩ = some (.int .i64 s.p)
  c0 : w.cell? ⟨b, o + 1, none⟩ = some (.int .i64 (s.c 0))
  c1 : w.cell? ⟨b, o + 2, none⟩ = some (.int .i64 (s.c 1))
  c2 : w.cell? ⟨b, o + 3, none⟩ = some (.int .i64 (s.c 2))
  c3 : w.cell? ⟨b, o + 4, none⟩ = some (.int .i64 (s.c 3))
  c4 : w.cell? ⟨b, o + 5, none⟩ = some (.int .i64 (s.c 4))
  c5 : w.cell? ⟨b, o + 6, none⟩ = some (.int .i64 (s.c 5))
  f : w.cell? ⟨b, o + 7, none⟩ = some (.bool s.f)
theorem StC.block {w w' : World} {b o : Nat} {s : St} (h : StC w b o s) (hb : w'.heap[b]? = w.heap[b]?) : StC w' b o s := by
  have hc := fun i => World.cell?_of_block (w := w) (w' := w') (a := ⟨b, i, none⟩) hb
  exact ⟨(hc _).trans h.p, (hc _).trans h.c0, (hc _).trans h.c1, (hc _).trans h.c2, (hc _).trans h.c3, (hc _).trans h.c4, (hc _).trans h.c5, (hc _).trans h.f⟩
/-- A cell is another number. -/
def pokeS (s : St) (c : Nat) (n : Int) : St := ⟨s.p, fun i => if i = c then n else s.c i, s.f⟩
/-- What is wrong with a poke. -/
def pokeB (k : KD) (r c n : Int) : Bool := decide (r < 0) || decide ((k.rooms.length : Int) ≤ r) || decide (c < 0) || decide (5 < c) || decide (n < 0) || decide (999 < n)
/-- .. as a number. -/
def pokeN (k : KD) (r c n : Int) : Int := if pokeB k r c n = true then 1 else 0
def pokeK (k : KD) (r c n : Int) : KD := if pokeB k r c n = true then k else ⟨k.rooms.set r.toNat (pokeS (k.rooms.getD r.toNat stNew) c.toNat n), k.lines, k.time⟩
theorem pokeB_false {k : KD} {r c n : Int} (h : pokeB k r c n = false) : 0 ≤ r ∧ r < k.rooms.length ∧ 0 ≤ c ∧ c ≤ 5 ∧ 0 ≤ n ∧ n ≤ 999 := by
  unfold pokeB at h
  simp only [Bool.or_eq_false_iff, decide_eq_false_iff_not] at h
  omega
theorem pokeS_ok {s : St} {m : Nat} (h : stOk s m = true) {c : Nat} {n : Int} (hn : 0 ≤ n ∧ n ≤ 999) : stOk (pokeS s c n) m = true := by
  obtain ⟨h1, h2, h3⟩ := stOk_iff.1 h
  refine stOk_iff.2 ⟨h1, h2, fun i hi => ?_⟩
  show 0 ≤ (if i = c then n else s.c i) ∧ (if i = c then n else s.c i) ≤ 999
  split
  · exact hn
  · exact h3 i hi
theorem poke_ok {p : PD} {k : KD} (hk : KOk p k) (r c n : Int) : KOk p (pokeK k r c n) := by
  unfold pokeK
  cases hb : pokeB k r c n with
  | true => rw [if_pos rfl]; exact hk
  | false =>
    rw [if_neg (by decide)]
    obtain ⟨h0, h1, h2, h3, h4, h5⟩ := pokeB_false hb
    refine ⟨by simp only [List.length_set]; exact hk.rl, hk.ll, fun i c' s hc hs => ?_, hk.lines, hk.lost, hk.time⟩
    simp only at hs
    by_cases hij : r.toNat = i
    · subst hij
      have hlt : r.toNat < k.rooms.length := by omega
      rw [List.getElem?_set_self hlt] at hs
      obtain rfl := Option.some.inj hs
      have hs0 : k.rooms[r.toNat]? = some k.rooms[r.toNat] := List.getElem?_eq_getElem hlt
      rw [show k.rooms.getD r.toNat stNew = k.rooms[r.toNat] by simp [List.getD, hs0]]
      exact pokeS_ok (hk.rooms _ _ _ hc hs0) ⟨h4, h5⟩
    · rw [List.getElem?_set_ne hij] at hs
      exact hk.rooms i c' s hc hs
end Go.Proofs.YtlegpedmfpbaiadDoor
namespace Go.Proofs.YtlegpedmfpbaiadDoor

/-- A kernel behind so many ticks. -/
def kT (p : PD) : Nat → KD
  | 0 => newK p
  | t + 1 => (tickK p p.spans (kT p t)).1
theorem kT_time (p : PD) : ∀ t, (kT p t).time = t
  | 0 => rfl
  | t + 1 => by
    show (tickK p p.spans (kT p t)).1.time = _
    rw [tick_time, kT_time p t]
    omega
theorem kT_ok {p : PD} (hp : plchk p = 0) : ∀ t, KOk p (kT p t)
  | 0 => new_ok hp
  | t + 1 => tick_ok hp (kT_ok hp t)
/-- Whose turn it is. -/
def whoK (p : PD) (k : KD) : Int := hold p.spans (k.time % p.ticks)
theorem tick_told (p : PD) (k : KD) : (tickK p p.spans k).2.1 = k.time ∧ (tickK p p.spans k).2.2.1 = whoK p k := by
  unfold tickK whoK
  simp only
  split
  · exact ⟨rfl, rfl⟩
  · exact ⟨rfl, rfl⟩
/-- No room but the one whose turn it is. -/
theorem tick_room {p : PD} {k : KD} {r : Nat} (hr : (r : Int) ≠ whoK p k) : (tickK p p.spans k).1.rooms[r]? = k.rooms[r]? := by
  unfold whoK at hr
  unfold tickK
  simp only
  split
  · rfl
  · rename_i h
    show (k.rooms.set _ _)[r]? = _
    rw [List.getElem?_set_ne (by omega)]
/-- No wire but those of it. -/
theorem tick_line {p : PD} {k : KD} (hp : plchk p = 0) (hk : KOk p k) {i : Nat} {x : W4} (hx : p.wires[i]? = some x) (h1 : x.1 ≠ whoK p k) (h2 : x.2.1 ≠ whoK p k) : (tickK p p.spans k).1.lines[i]? = k.lines[i]? := by
  have hw := (who_room hp (k.time % p.ticks)).2
  unfold whoK at h1 h2
  unfold tickK
  simp only
  split
  · rfl
  · rename_i h
    obtain ⟨rn, hrn⟩ : ∃ n : Nat, hold p.spans (k.time % p.ticks) = n := ⟨(hold p.spans (k.time % p.ticks)).toNat, by omega⟩
    rw [hrn] at h1 h2 hw ⊢
    have hlt : rn < p.code.length := by simpa using hw (by omega)
    obtain ⟨c, s, o, ht⟩ := turn_of hp hk hlt
    obtain ⟨e1, e2, e3⟩ := ht.at
    rw [Int.toNat_natCast]
    unfold turnK
    simp only [e1, e2, e3]
    have hop := op_wire hp ht.hc (List.mem_of_getElem? ht.ho)
    have hT : (linesT k o s)[i]? = k.lines[i]? := by
      unfold linesT
      split
      · rename_i htk
        have h9 : o.1 = 9 := by
          unfold takesB at htk
          simp only [Bool.and_eq_true, decide_eq_true_eq] at htk
          exact htk.2
        obtain ⟨y, hy, hy2⟩ := hop.2 h9
        refine List.getElem?_set_ne (fun e => ?_)
        rw [e, hx] at hy
        obtain rfl := Option.some.inj hy
        exact h2 hy2
      · rfl
    rw [← hT]
    unfold linesS
    split
    · rename_i hs
      have h8 := ((sendK_range ht).2.2 hs).1
      obtain ⟨y, hy, hy2⟩ := hop.1 h8
      refine List.getElem?_set_ne (fun e => ?_)
      rw [e, hx] at hy
      obtain rfl := Option.some.inj hy
      exact h1 hy2
    · rfl
end Go.Proofs.YtlegpedmfpbaiadDoor
namespace Go.Proofs.YtlegpedmfpbaiadDoor

theorem set_same {α : Type} {l : List α} {i : Nat} {x : α} (h : l[i]? = some x) : l.set i x = l := by
  apply List.ext_getElem?
  intro j
  rw [List.getElem?_set]
  by_cases hij : i = j
  · subst hij
    rw [if_pos rfl, if_pos (List.getElem?_eq_some_iff.1 h).1, h]
  · simp [hij]
/-- It had failed ahead. -/
theorem turn_failed {p : PD} {k : KD} {r : Nat} {c : List O3} {s : St} {o : O3} (h : Turn p k r c s o) (hf : s.f = true) : turnK p k r = (⟨k.rooms, k.lines, k.time + 1⟩, s.p, 5) := by
  obtain ⟨e1, e2, e3⟩ := h.at
  have ht : takesB o s = false := by unfold takesB; rw [hf]; rfl
  have hs : sendF o s = -1 := by unfold sendF; rw [hf, if_pos rfl]
  unfold turnK
  simp only [e1, e2, e3]
  unfold linesS cameK linesT gotK
  rw [ht, hs]
  simp only [Bool.false_eq_true, if_false, show ¬ ((0 : Int) ≤ -1) by omega, false_and]
  unfold stepF whatF
  rw [hf, if_pos rfl, if_pos rfl, set_same h.hs]
/-- It takes, and there is something. -/
theorem turn_takes {p : PD} {k : KD} {r : Nat} {c : List O3} {s : St} {o : O3} (h : Turn p k r c s o) (hf : s.f = false) (h9 : o.1 = 9) {l : LnD} (hl : k.lines[o.2.2.toNat]? = some l) (hh : (headL l).2 = true) :
    turnK p k r = (⟨k.rooms.set r (stepF o s c.length (headL l).1 true), k.lines.set o.2.2.toNat (restL l), k.time + 1⟩, s.p, 2) := by
  obtain ⟨e1, e2, e3⟩ := h.at
  have ht : takesB o s = true := by unfold takesB; rw [hf, h9]; rfl
  have hs : sendF o s = -1 := by unfold sendF sentF; rw [hf, if_neg (by decide), if_neg (by omega)]
  have hla : lineAt k o = l := by simp [lineAt, List.getD, hl]
  unfold turnK
  simp only [e1, e2, e3]
  unfold linesS cameK linesT gotK
  rw [ht, hs, hla]
  simp only [if_true, show ¬ ((0 : Int) ≤ -1) by omega, if_false, false_and, hh]
  unfold whatF
  rw [hf, if_neg (by decide), if_neg (by omega), if_pos h9, if_pos rfl]
/-- It takes, and there is nothing. -/
theorem turn_waits {p : PD} {k : KD} {r : Nat} {c : List O3} {s : St} {o : O3} (h : Turn p k r c s o) (hf : s.f = false) (h9 : o.1 = 9) {l : LnD} (hl : k.lines[o.2.2.toNat]? = some l) (hh : (headL l).2 = false) :
    turnK p k r = (⟨k.rooms.set r (stepF o s c.length 0 false), k.lines, k.time + 1⟩, s.p, 3) := by
  obtain ⟨e1, e2, e3⟩ := h.at
  have ht : takesB o s = true := by unfold takesB; rw [hf, h9]; rfl
  have hs : sendF o s = -1 := by unfold sendF sentF; rw [hf, if_neg (by decide), if_neg (by omega)]
  have hla : lineAt k o = l := by simp [lineAt, List.getD, hl]
  have hx : l.xs = [] := by
    unfold headL at hh
    split at hh
    · assumption
    · cases hh
  have hhd : headL l = (0, false) := by unfold headL; rw [hx]
  have hre : restL l = l := by unfold restL; rw [hx]
  unfold turnK
  simp only [e1, e2, e3]
  unfold linesS cameK linesT gotK
  rw [ht, hs, hla, hre, hhd]
  simp only [if_true, show ¬ ((0 : Int) ≤ -1) by omega, if_false, false_and]
  rw [set_same hl]
  unfold whatF
  rw [hf, if_neg (by decide), if_neg (by omega), if_pos h9, if_neg (by decide)]
/-- It sends. -/
theorem turn_sends {p : PD} {k : KD} {r : Nat} {c : List O3} {s : St} {o : O3} (h : Turn p k r c s o) (hf : s.f = false) (h8 : o.1 = 8) {l : LnD} (hl : k.lines[o.2.2.toNat]? = some l) :
    turnK p k r = (⟨k.rooms.set r (stepF o s c.length 0 false), k.lines.set o.2.2.toNat (putL l (s.c o.2.1.toNat)), k.time + 1⟩, s.p, if fitL l = true then 1 else 3) := by
  obtain ⟨e1, e2, e3⟩ := h.at
  have ht : takesB o s = false := by unfold takesB; rw [hf, h8]; rfl
  have hs : sendF o s = s.c o.2.1.toNat := by unfold sendF sentF; rw [hf, if_neg (by decide), if_pos h8]
  have h0 : 0 ≤ s.c o.2.1.toNat := by
    have hr := (ok3_range h.ok).2.2
    have hb := (bA_le o.1).2
    have := (stOk_iff.1 h.st).2.2 o.2.1.toNat (by omega)
    exact this.1
  unfold turnK
  simp only [e1, e2, e3]
  unfold linesS cameK linesT gotK
  rw [ht, hs]
  simp only [Bool.false_eq_true, if_false, if_pos h0, List.getD, hl, Option.getD_some]
  have hw : whatF o s false = 1 := by unfold whatF; rw [hf, if_neg (by decide), if_pos h8]
  rw [hw]
  cases hfl : fitL l with
  | true => rw [if_neg (fun e => by cases e.2), if_pos rfl]
  | false => rw [if_pos ⟨h0, rfl⟩, if_neg (by decide)]
/-- It does none of these. -/
theorem turn_else {p : PD} {k : KD} {r : Nat} {c : List O3} {s : St} {o : O3} (h : Turn p k r c s o) (hf : s.f = false) (h8 : o.1 ≠ 8) (h9 : o.1 ≠ 9) :
    turnK p k r = (⟨k.rooms.set r (stepF o s c.length 0 false), k.lines, k.time + 1⟩, s.p, if o.1 = 11 then 4 else 0) := by
  obtain ⟨e1, e2, e3⟩ := h.at
  have ht : takesB o s = false := by unfold takesB; rw [hf]; simp [h9]
  have hs : sendF o s = -1 := by unfold sendF sentF; rw [hf, if_neg (by decide), if_neg h8]
  unfold turnK
  simp only [e1, e2, e3]
  unfold linesS cameK linesT gotK
  rw [ht, hs]
  simp only [Bool.false_eq_true, if_false, show ¬ ((0 : Int) ≤ -1) by omega, false_and]
  unfold whatF
  rw [hf, if_neg (by decide), if_neg h8, if_neg h9]
end Go.Proofs.YtlegpedmfpbaiadDoor
namespace Go.Proofs.YtlegpedmfpbaiadDoor
open Go.RowKit

/-- A state as a value. -/
def stA (s : St) : Value := .agg #[.int .i64 s.p, .int .i64 (s.c 0), .int .i64 (s.c 1), .int .i64 (s.c 2), .int .i64 (s.c 3), .int .i64 (s.c 4), .int .i64 (s.c 5), .bool s.f]
/-- An event as a value. -/
def evA (e : Int × Int × Int × Int) : Value := .agg #[.int .i64 e.1, .int .i64 e.2.1, .int .i64 e.2.2.1, .int .i64 e.2.2.2]
/-- A room of a kernel, and whether there is one. -/
def noRoom (k : KD) (r : Int) : Bool := decide (r < 0) || decide ((k.rooms.length : Int) ≤ r)
def roomK (k : KD) (r : Int) : St := if noRoom k r = true then stNew else k.rooms.getD r.toNat stNew
/-- A line of a kernel, and whether there is one. -/
def noLine (k : KD) (i : Int) : Bool := decide (i < 0) || decide ((k.lines.length : Int) ≤ i)
def lineK (k : KD) (i : Int) : LnD := if noLine k i = true then LnD.none else k.lines.getD i.toNat LnD.none
def errB (b : Bool) : Int := if b = true then 1 else 0
/-- What package kernel does, in every world of a kind: K w0 w p vc vs vw k kb F: made in the world w0, of the plan p that lay there, a kernel lies at block kb; it is k, and all that it has lies in the blocks F. -/
structure KerC (G : World → Prop) where
  K : World → World → PD → Value → Value → Value → KD → Nat → List Nat → Prop
  all : ∀ w w', G w → Below w.heap.size w w' → G w'
  since : ∀ {w0 w p vc vs vw k kb F}, K w0 w p vc vs vw k kb F → Below w0.heap.size w0 w
  ge : ∀ {w0 w p vc vs vw k kb F}, K w0 w p vc vs vw k kb F → ∀ g ∈ F, w0.heap.size ≤ g ∧ g < w.heap.size
  lower : ∀ {w1 w0 w p vc vs vw k kb F}, Below w1.heap.size w1 w0 → K w0 w p vc vs vw k kb F → K w1 w p vc vs vw k kb F
  frame : ∀ {w0 w w' p vc vs vw k kb F M}, K w0 w p vc vs vw k kb F → KTouch M w w' → (∀ m ∈ M, m ∉ F ∧ w0.heap.size ≤ m) → K w0 w' p vc vs vw k kb F
  new : ∀ (p : PD) (vc vs vw : Value) (W : World), G W → Pln W vc vs vw p → plchk p = 0 → Calls Tryd.prog 10 #[plV vc p.ticks vs vw] W fun e w' => ∃ kb F, e = .returned (.tuple #[.pointer (some ⟨kb, 0, none⟩), .nilIface]) ∧ K W w' p vc vs vw (newK p) kb F
  no : ∀ (p : PD) (vc vs vw : Value) (W : World), G W → Pln W vc vs vw p → plchk p ≠ 0 → Calls Tryd.prog 10 #[plV vc p.ticks vs vw] W fun e w' => ∃ x, e = .returned (.tuple #[.pointer x, wErr (plchk p)]) ∧ Below W.heap.size W w'
  tick : ∀ {w0 W p vc vs vw k kb F}, G w0 → K w0 W p vc vs vw k kb F → plchk p = 0 → KOk p k → k.time < 1000000 → Calls Tryd.prog 11 #[.pointer (some ⟨kb, 0, none⟩)] W fun e w' => e = .returned (evA (tickK p p.spans k).2) ∧ ∃ F', K w0 w' p vc vs vw (tickK p p.spans k).1 kb F' ∧ KTouch F W w' ∧ ∀ g ∈ F', g ∈ F ∨ W.heap.size ≤ g
  state : ∀ {w0 W p vc vs vw k kb F} (r : Int), K w0 W p vc vs vw k kb F → KOk p k → plchk p = 0 → Calls Tryd.prog 12 #[.pointer (some ⟨kb, 0, none⟩), .int .i64 r] W fun e w' => e = .returned (.tuple #[stA (roomK k r), wErr (errB (noRoom k r))]) ∧ Below W.heap.size W w'
end Go.Proofs.YtlegpedmfpbaiadDoor
namespace Go.Proofs.YtlegpedmfpbaiadDoor
open Go.RowKit

def KerPoke {G : World → Prop} (C : KerC G) : Prop := ∀ {w0 W p vc vs vw k kb F} (r c n : Int), C.K w0 W p vc vs vw k kb F → KOk p k → plchk p = 0 → Calls Tryd.prog 20 #[.pointer (some ⟨kb, 0, none⟩), .int .i64 r, .int .i64 c, .int .i64 n] W fun e w' => e = .returned (wErr (pokeN k r c n)) ∧ ∃ F', C.K w0 w' p vc vs vw (pokeK k r c n) kb F' ∧ KTouch F W w' ∧ ∀ g ∈ F', g ∈ F ∨ W.heap.size ≤ g
end Go.Proofs.YtlegpedmfpbaiadDoor
namespace Go.Proofs.YtlegpedmfpbaiadDoor
open Go.RowKit

/-- What a wire holds: what can be read lies in memory of its own. -/
def KerWire {G : World → Prop} (C : KerC G) : Prop := ∀ {w0 W p vc vs vw k kb F} (i : Int), C.K w0 W p vc vs vw k kb F → KOk p k → plchk p = 0 → Calls Tryd.prog 15 #[.pointer (some ⟨kb, 0, none⟩), .int .i64 i] W fun e w' => ∃ u, e = .returned (.tuple #[.agg #[u, .int .i64 (lineK k i).ls], wErr (errB (noLine k i))]) ∧ Rd w' u (lineK k i).xs ∧ (∀ g, u.ownBlock = some g → W.heap.size ≤ g ∧ g < w'.heap.size) ∧ Below W.heap.size W w'
end Go.Proofs.YtlegpedmfpbaiadDoor
namespace Go.Proofs.YtlegpedmfpbaiadDoor
open Go.RowKit

/-- A state's eight cells, written. -/
def setSt (w : World) (b o : Nat) (s : St) : World := (((((((w.setCell ⟨b, o, none⟩ (.int .i64 s.p)).setCell ⟨b, o + 1, none⟩ (.int .i64 (s.c 0))).setCell ⟨b, o + 2, none⟩ (.int .i64 (s.c 1))).setCell ⟨b, o + 3, none⟩ (.int .i64 (s.c 2))).setCell ⟨b, o + 4, none⟩ (.int .i64 (s.c 3))).setCell ⟨b, o + 5, none⟩ (.int .i64 (s.c 4))).setCell ⟨b, o + 6, none⟩ (.int .i64 (s.c 5))).setCell ⟨b, o + 7, none⟩ (.bool s.f)
theorem setSt_touch {M : List Nat} (w : World) {b : Nat} (hb : b ∈ M) (o : Nat) (s : St) : KTouch M w (setSt w b o s) :=
  (((((((KTouch.set w hb _ _).trans (KTouch.set _ hb _ _)).trans (KTouch.set _ hb _ _)).trans (KTouch.set _ hb _ _)).trans (KTouch.set _ hb _ _)).trans (KTouch.set _ hb _ _)).trans (KTouch.set _ hb _ _)).trans (KTouch.set _ hb _ _)
theorem setSt_frozen (w : World) (b o : Nat) (s : St) (a : Addr) : (setSt w b o s).frozen? a = w.frozen? a := by
  unfold setSt
  simp only [World.frozen?_setCell]
theorem setCell_far {w : World} {b i j : Nat} {v : Value} (h : i ≠ j) : (w.setCell ⟨b, j, none⟩ v).cell? ⟨b, i, none⟩ = w.cell? ⟨b, i, none⟩ :=
  World.cell?_setCell_other _ _ _ _ (fun e => by injection e with e1 e2; exact h e2.symm)
theorem setSt_off {w : World} {b o : Nat} {s : St} {i : Nat} (h : i < o ∨ o + 8 ≤ i) : (setSt w b o s).cell? ⟨b, i, none⟩ = w.cell? ⟨b, i, none⟩ := by
  unfold setSt
  rw [setCell_far (by omega), setCell_far (by omega), setCell_far (by omega), setCell_far (by omega), setCell_far (by omega), setCell_far (by omega), setCell_far (by omega), setCell_far (by omega)]
theorem setSt_at {w : World} {b o : Nat} {s s' : St} (h : StC w b o s) : StC (setSt w b o s') b o s' := by
  obtain ⟨h0, h1, h2, h3, h4, h5, h6, h7⟩ := h
  unfold setSt
  refine ⟨?_, ?_, ?_, ?_, ?_, ?_, ?_, ?_⟩ <;> simp [go_sem, h0, h1, h2, h3, h4, h5, h6, h7]
theorem StC.off {w w' : World} {b o : Nat} {s : St} (h : StC w b o s) (hc : ∀ i, o ≤ i → i < o + 8 → w'.cell? ⟨b, i, none⟩ = w.cell? ⟨b, i, none⟩) : StC w' b o s :=
  ⟨(hc _ (by omega) (by omega)).trans h.p, (hc _ (by omega) (by omega)).trans h.c0, (hc _ (by omega) (by omega)).trans h.c1, (hc _ (by omega) (by omega)).trans h.c2, (hc _ (by omega) (by omega)).trans h.c3, (hc _ (by omega) (by omega)).trans h.c4, (hc _ (by omega) (by omega)).trans h.c5, (hc _ (by omega) (by omega)).trans h.f⟩
theorem StC.poke {w : World} {b o : Nat} {s : St} (h : StC w b o s) {c : Nat} (hc : c ≤ 5) (n : Int) : StC (w.setCell ⟨b, o + 1 + c, none⟩ (.int .i64 n)) b o (pokeS s c n) := by
  obtain ⟨h0, h1, h2, h3, h4, h5, h6, h7⟩ := h
  match c, hc with
  | 0, _ => refine ⟨?_, ?_, ?_, ?_, ?_, ?_, ?_, ?_⟩ <;> simp [go_sem, pokeS, h0, h1, h2, h3, h4, h5, h6, h7]
  | 1, _ => refine ⟨?_, ?_, ?_, ?_, ?_, ?_, ?_, ?_⟩ <;> simp [go_sem, pokeS, h0, h1, h2, h3, h4, h5, h6, h7]
  | 2, _ => refine ⟨?_, ?_, ?_, ?_, ?_, ?_, ?_, ?_⟩ <;> simp [go_sem, pokeS, h0, h1, h2, h3, h4, h5, h6, h7]
  | 3, _ => refine ⟨?_, ?_, ?_, ?_, ?_, ?_, ?_, ?_⟩ <;> simp [go_sem, pokeS, h0, h1, h2, h3, h4, h5, h6, h7]
  | 4, _ => refine ⟨?_, ?_, ?_, ?_, ?_, ?_, ?_, ?_⟩ <;> simp [go_sem, pokeS, h0, h1, h2, h3, h4, h5, h6, h7]
  | 5, _ => refine ⟨?_, ?_, ?_, ?_, ?_, ?_, ?_, ?_⟩ <;> simp [go_sem, pokeS, h0, h1, h2, h3, h4, h5, h6, h7]
/-- An event in its box. -/
def EvB (W : World) (b : Nat) (t r a q : Int) : Prop := W.heap[b]? = some (.cells #[.int .i64 t, .int .i64 r, .int .i64 a, .int .i64 q] 44 (0, 0))
theorem EvB.lt {W : World} {b : Nat} {t r a q : Int} (h : EvB W b t r a q) : b < W.heap.size := (Array.getElem?_eq_some_iff.1 h).1
theorem EvB.cs {W : World} {b : Nat} {t r a q : Int} (h : EvB W b t r a q) : W.cell? ⟨b, 0, none⟩ = some (.int .i64 t) ∧ W.cell? ⟨b, 1, none⟩ = some (.int .i64 r) ∧ W.cell? ⟨b, 2, none⟩ = some (.int .i64 a) ∧ W.cell? ⟨b, 3, none⟩ = some (.int .i64 q) := by
  have e : W.heap[b]? = _ := h
  simp [World.cell?, e]
theorem EvB.fs {W : World} {b : Nat} {t r a q : Int} (h : EvB W b t r a q) : W.frozen? ⟨b, 0, none⟩ = false ∧ W.frozen? ⟨b, 1, none⟩ = false ∧ W.frozen? ⟨b, 2, none⟩ = false ∧ W.frozen? ⟨b, 3, none⟩ = false := by
  have e : W.heap[b]? = _ := h
  simp [World.frozen?, e]
theorem EvB.set {W : World} {b : Nat} {t r a q : Int} (h : EvB W b t r a q) (t' r' a' q' : Int) : EvB ((((W.setCell ⟨b, 0, none⟩ (.int .i64 t')).setCell ⟨b, 1, none⟩ (.int .i64 r')).setCell ⟨b, 2, none⟩ (.int .i64 a')).setCell ⟨b, 3, none⟩ (.int .i64 q')) b t' r' a' q' := by
  have e : W.heap[b]? = _ := h
  unfold EvB
  simp [World.setCell, Array.getElem?_modify, e]
theorem EvB.at {W : World} {b : Nat} {t r a q : Int} (h : EvB W b t r a q) (a' : Int) : EvB (W.setCell ⟨b, 2, none⟩ (.int .i64 a')) b t r a' q := by
  have e : W.heap[b]? = _ := h
  unfold EvB
  simp [World.setCell, Array.getElem?_modify, e]
theorem EvB.what {W : World} {b : Nat} {t r a q : Int} (h : EvB W b t r a q) (q' : Int) : EvB (W.setCell ⟨b, 3, none⟩ (.int .i64 q')) b t r a q' := by
  have e : W.heap[b]? = _ := h
  unfold EvB
  simp [World.setCell, Array.getElem?_modify, e]
/-- A state in its box. -/
def StB (W : World) (b : Nat) (s : St) : Prop := W.heap[b]? = some (.cells #[.int .i64 s.p, .int .i64 (s.c 0), .int .i64 (s.c 1), .int .i64 (s.c 2), .int .i64 (s.c 3), .int .i64 (s.c 4), .int .i64 (s.c 5), .bool s.f] 48 (0, 0))
theorem StB.cs {W : World} {b : Nat} {s : St} (h : StB W b s) : StC W b 0 s := by
  have e : W.heap[b]? = _ := h
  refine ⟨?_, ?_, ?_, ?_, ?_, ?_, ?_, ?_⟩ <;> simp [World.cell?, e]
/-- Both boxes of a tick, the result's and its own. -/
structure Ev (w W : World) (e2 : Nat) (t r a q : Int) : Prop where
  res : EvB W w.heap.size 0 0 0 0
  own : EvB W e2 t r a q
  ne : e2 ≠ w.heap.size
  ge : w.heap.size ≤ e2
/-- The box laid ahead of the call. -/
theorem ev_box {w w1 : World} (b1 : Below (((w.alloc (.cells #[.int .i64 0, .int .i64 0, .int .i64 0, .int .i64 0] 44)).alloc (.cells #[.int .i64 0, .int .i64 0, .int .i64 0, .int .i64 0] 44)).drew).heap.size (((w.alloc (.cells #[.int .i64 0, .int .i64 0, .int .i64 0, .int .i64 0] 44)).alloc (.cells #[.int .i64 0, .int .i64 0, .int .i64 0, .int .i64 0] 44)).drew) w1) :
    (w1.cell? ⟨w.heap.size + 1, 0, none⟩ = some (.int .i64 0) ∧ w1.cell? ⟨w.heap.size + 1, 1, none⟩ = some (.int .i64 0) ∧ w1.cell? ⟨w.heap.size + 1, 2, none⟩ = some (.int .i64 0) ∧ w1.cell? ⟨w.heap.size + 1, 3, none⟩ = some (.int .i64 0)) ∧ w1.frozen? ⟨w.heap.size + 1, 0, none⟩ = false ∧ w1.frozen? ⟨w.heap.size + 1, 1, none⟩ = false ∧ w1.frozen? ⟨w.heap.size + 1, 2, none⟩ = false ∧ w1.frozen? ⟨w.heap.size + 1, 3, none⟩ = false := by
  have hc := fun o => b1.cell (p := ⟨w.heap.size + 1, o, none⟩) (by simp)
  have hf := fun o => b1.frozen (p := ⟨w.heap.size + 1, o, none⟩) (by simp)
  exact ⟨⟨(hc 0).trans (by simp), (hc 1).trans (by simp), (hc 2).trans (by simp), (hc 3).trans (by simp)⟩, (hf 0).trans (by simp), (hf 1).trans (by simp), (hf 2).trans (by simp), (hf 3).trans (by simp)⟩
/-- The cells of a state are there, and may be written. -/
theorem there_st {W : World} {b o : Nat} {s : St} (h : StC W b o s) (hf : ∀ i, W.frozen? ⟨b, i, none⟩ = false) (nq : Nat) : (W.drewN nq).there b o 8 := by
  obtain ⟨s0, s1, s2, s3, s4, s5, s6, s7⟩ := h
  intro j hj
  have hb : Below W.heap.size W (W.drewN nq) := below_dN (Below.refl _ _) nq
  have hlt : b < W.heap.size := World.block_lt_of_cell? W _ s0
  rw [hb.cell (p := ⟨b, o + j, none⟩) hlt, hb.frozen (p := ⟨b, o + j, none⟩) hlt]
  refine ⟨?_, hf _⟩
  match j, hj with
  | 0, _ => rw [Nat.add_zero, s0]; rfl
  | 1, _ => rw [s1]; rfl
  | 2, _ => rw [s2]; rfl
  | 3, _ => rw [s3]; rfl
  | 4, _ => rw [s4]; rfl
  | 5, _ => rw [s5]; rfl
  | 6, _ => rw [s6]; rfl
  | 7, _ => rw [s7]; rfl
end Go.Proofs.YtlegpedmfpbaiadDoor
namespace Go.Proofs.YtlegpedmfpbaiadDoor
open Go.ChangeShapes Go.WideShapes Go.ChangeAt Go.WideElems Go.RowKit Go.Deep

theorem pk_spot {W : World} {a : Addr} {v : Value} (h : W.cell? a = some v) : a = ⟨a.block, a.off, none⟩ ∧ a.block < W.heap.size := by
  obtain ⟨b, o, s⟩ := a
  unfold World.cell? at h
  simp only at h
  cases hb : W.heap[b]? with
  | none => rw [hb] at h; cases h
  | some x =>
    rw [hb] at h
    refine ⟨?_, (Array.getElem?_eq_some_iff.1 hb).1⟩
    cases x <;> simp at h
    cases s with
    | none => rfl
    | some s => simp at h
theorem pk_lt {α : Type} [Inhabited α] {p : Nat → α → Prop} {n : Nat} (h : ∀ i, i < n → ∃ x, p i x) : ∃ f : Nat → α, ∀ i, i < n → p i (f i) := by
  refine ⟨fun i => if hi : i < n then (h i hi).choose else default, fun i hi => ?_⟩
  simp only [hi, dif_pos]
  exact (h i hi).choose_spec
/-- A slice read as data, at the level of its cell. -/
theorem pk_slice {α : Type} [Inhabited α] {H : Type} {enc : TypeId × Value → H} {P : Program} {W : World} {base : Nat} {sp : Nat → Bool} {held : Bool} {fuel : Nat} {cs : List Value} {x : DataW H × List MemPlace} {t e : TypeId} {k : Nat}
    (ht : P.underlying t = some (.slice e)) (hk : P.cellsOf e = k) (hk0 : 0 < k) (R : List Value → α → Prop)
    (hel : ∀ (n : Nat) (cs : List Value) (x : DataW H × List MemPlace), DataW.trod enc P W base sp held n e cs = some x → ∃ o, R cs o)
    (h : DataW.trod enc P W base sp held fuel t cs = some x) :
    ∃ a len cap, cs = [.slice a len cap] ∧ (len = 0 ∨ ∃ b off, a = some ⟨b, off, none⟩ ∧ len ≤ cap ∧ b < W.heap.size ∧ ∃ l : List α, l.length = len ∧ ∀ i o, l[i]? = some o → ∃ us, us.length = k ∧ R us o ∧ ∀ j, j < k → W.cell? ⟨b, off + i * k + j, none⟩ = us[j]?) := by
  rcases open_slice ht h with ⟨rfl, _⟩ | ⟨a, len, cap, m, n, D, Pl, rfl, _, hl, _, hm, _, he⟩
  · exact ⟨none, 0, 0, rfl, Or.inl rfl⟩
  · refine ⟨some a, len, cap, rfl, ?_⟩
    have hlm : len ≤ m := by rw [hm]; split <;> omega
    by_cases h0 : len = 0
    · exact Or.inl h0
    · rw [hk] at he
      obtain ⟨F, hF⟩ := pk_lt (α := α × List Value) (p := fun i o => o.2.length = k ∧ R o.2 o.1 ∧ ∀ j, j < k → W.cell? ((a.add (i * k)).add j) = o.2[j]?) (n := len) (fun i hi => by
        obtain ⟨us, h1, h2⟩ := he i (by omega)
        obtain ⟨o, ho⟩ := hel _ _ _ h2
        obtain ⟨_, h3, h4⟩ := World.cells?_some h1
        exact ⟨(o, us), h3, ho, h4⟩)
      obtain ⟨l0, _, c0⟩ := hF 0 (by omega)
      have hz := c0 0 hk0
      rw [show (a.add (0 * k)).add 0 = a from by simp [Addr.add], List.getElem?_eq_getElem (by omega)] at hz
      obtain ⟨ha, hlt⟩ := pk_spot hz
      refine Or.inr ⟨a.block, a.off, by rw [← ha], hl, hlt, (List.range len).map (fun i => (F i).1), by simp, fun i o ho => ?_⟩
      have hi : i < len := by
        have := (List.getElem?_eq_some_iff.1 ho).1
        simpa using this
      have hoi : (F i).1 = o := by simpa [hi] using ho
      obtain ⟨h1, h2, h3⟩ := hF i hi
      refine ⟨(F i).2, h1, hoi ▸ h2, fun j hj => ?_⟩
      have := h3 j hj
      rw [ha] at this
      simp only [Addr.add_lit] at this
      exact this
theorem pcInt : Tryd.prog.cellsOf 3 = 1 := by kernel_rfl
theorem pcOp : Tryd.prog.cellsOf 25 = 3 := by kernel_rfl
theorem pcSpan : Tryd.prog.cellsOf 42 = 3 := by kernel_rfl
theorem pcWire : Tryd.prog.cellsOf 23 = 4 := by kernel_rfl
theorem pcOps : Tryd.prog.cellsOf 26 = 1 := by kernel_rfl
section
variable {H : Type} {enc : TypeId × Value → H} {W : World} {base : Nat} {sp : Nat → Bool} {held : Bool}
set_option maxRecDepth 100000 in
theorem pk_op (n : Nat) (cs : List Value) (x : DataW H × List MemPlace) (h : DataW.trod enc Tryd.prog W base sp held n 25 cs = some x) : ∃ o : O3, cs = [.int .i64 o.1, .int .i64 o.2.1, .int .i64 o.2.2] := by
  obtain ⟨y0, y1, y2, n, _, hl, h0, h1, h2⟩ := trod_struct3 Tryd.underlying25 h
  rw [pcOp] at hl
  match cs, hl with
  | [c0, c1, c2], _ =>
    simp only [pcInt] at h0 h1 h2
    simp at h0 h1 h2
    obtain ⟨n, e0, _, _⟩ := DataW.trod_int Tryd.underlying3 h0
    obtain ⟨a, e1, _, _⟩ := DataW.trod_int Tryd.underlying3 h1
    obtain ⟨b, e2, _, _⟩ := DataW.trod_int Tryd.underlying3 h2
    simp only [List.cons.injEq, and_true] at e0 e1 e2
    subst e0; subst e1; subst e2
    exact ⟨(n, a, b), rfl⟩
set_option maxRecDepth 100000 in
theorem pk_span (n : Nat) (cs : List Value) (x : DataW H × List MemPlace) (h : DataW.trod enc Tryd.prog W base sp held n 42 cs = some x) : ∃ o : S3, cs = [.int .i64 o.1, .int .i64 o.2.1, .int .i64 o.2.2] := by
  obtain ⟨y0, y1, y2, n, _, hl, h0, h1, h2⟩ := trod_struct3 Tryd.underlying42 h
  rw [pcSpan] at hl
  match cs, hl with
  | [c0, c1, c2], _ =>
    simp only [pcInt] at h0 h1 h2
    simp at h0 h1 h2
    obtain ⟨n, e0, _, _⟩ := DataW.trod_int Tryd.underlying3 h0
    obtain ⟨a, e1, _, _⟩ := DataW.trod_int Tryd.underlying3 h1
    obtain ⟨b, e2, _, _⟩ := DataW.trod_int Tryd.underlying3 h2
    simp only [List.cons.injEq, and_true] at e0 e1 e2
    subst e0; subst e1; subst e2
    exact ⟨(n, a, b), rfl⟩
set_option maxRecDepth 100000 in
theorem pk_wire (n : Nat) (cs : List Value) (x : DataW H × List MemPlace) (h : DataW.trod enc Tryd.prog W base sp held n 23 cs = some x) : ∃ o : W4, cs = [.int .i64 o.1, .int .i64 o.2.1, .int .i64 o.2.2.1, .int .i64 o.2.2.2] := by
  obtain ⟨y0, y1, y2, y3, n, _, hl, h0, h1, h2, h3⟩ := Joins.trod_struct4 Tryd.underlying23 h
  rw [pcWire] at hl
  match cs, hl with
  | [c0, c1, c2, c3], _ =>
    simp only [pcInt] at h0 h1 h2 h3
    simp at h0 h1 h2 h3
    obtain ⟨n, e0, _, _⟩ := DataW.trod_int Tryd.underlying3 h0
    obtain ⟨a, e1, _, _⟩ := DataW.trod_int Tryd.underlying3 h1
    obtain ⟨b, e2, _, _⟩ := DataW.trod_int Tryd.underlying3 h2
    obtain ⟨c, e3, _, _⟩ := DataW.trod_int Tryd.underlying3 h3
    simp only [List.cons.injEq, and_true] at e0 e1 e2 e3
    subst e0; subst e1; subst e2; subst e3
    exact ⟨(n, a, b, c), rfl⟩
theorem pk_ops (n : Nat) (cs : List Value) (x : DataW H × List MemPlace) (h : DataW.trod enc Tryd.prog W base sp held n 26 cs = some x) : ∃ l : List O3, ∃ u, cs = [u] ∧ Ops W u l := by
  obtain ⟨a, len, cap, rfl, hr⟩ := pk_slice (α := O3) Tryd.underlying26 pcOp (by decide) (fun cs o => cs = [.int .i64 o.1, .int .i64 o.2.1, .int .i64 o.2.2]) pk_op h
  rcases hr with rfl | ⟨b, off, rfl, _, hlt, l, rfl, hl⟩
  · exact ⟨[], _, rfl, Or.inl ⟨rfl, _, _, rfl⟩⟩
  · refine ⟨l, _, rfl, Or.inr ⟨b, off, cap, rfl, hlt, fun i o ho => ?_⟩⟩
    obtain ⟨us, _, rfl, hc⟩ := hl i o ho
    exact ⟨hc 0 (by omega), hc 1 (by omega), hc 2 (by omega)⟩
theorem pk_sps (n : Nat) (cs : List Value) (x : DataW H × List MemPlace) (h : DataW.trod enc Tryd.prog W base sp held n 29 cs = some x) : ∃ l : List S3, ∃ u, cs = [u] ∧ Sps W u l := by
  obtain ⟨a, len, cap, rfl, hr⟩ := pk_slice (α := S3) Tryd.underlying29 pcSpan (by decide) (fun cs o => cs = [.int .i64 o.1, .int .i64 o.2.1, .int .i64 o.2.2]) pk_span h
  rcases hr with rfl | ⟨b, off, rfl, hcap, hlt, l, rfl, hl⟩
  · exact ⟨[], _, rfl, Or.inl ⟨rfl, _, _, rfl⟩⟩
  · refine ⟨l, _, rfl, Or.inr ⟨b, off, cap, rfl, hcap, hlt, fun i o ho => ?_⟩⟩
    obtain ⟨us, _, rfl, hc⟩ := hl i o ho
    exact ⟨hc 0 (by omega), hc 1 (by omega), hc 2 (by omega)⟩
theorem pk_wrs (n : Nat) (cs : List Value) (x : DataW H × List MemPlace) (h : DataW.trod enc Tryd.prog W base sp held n 28 cs = some x) : ∃ l : List W4, ∃ u, cs = [u] ∧ Wrs W u l := by
  obtain ⟨a, len, cap, rfl, hr⟩ := pk_slice (α := W4) Tryd.underlying28 pcWire (by decide) (fun cs o => cs = [.int .i64 o.1, .int .i64 o.2.1, .int .i64 o.2.2.1, .int .i64 o.2.2.2]) pk_wire h
  rcases hr with rfl | ⟨b, off, rfl, hcap, hlt, l, rfl, hl⟩
  · exact ⟨[], _, rfl, Or.inl ⟨rfl, _, _, rfl⟩⟩
  · refine ⟨l, _, rfl, Or.inr ⟨b, off, cap, rfl, hcap, hlt, fun i o ho => ?_⟩⟩
    obtain ⟨us, _, rfl, hc⟩ := hl i o ho
    exact ⟨hc 0 (by omega), hc 1 (by omega), hc 2 (by omega), hc 3 (by omega)⟩
theorem pk_cds (n : Nat) (cs : List Value) (x : DataW H × List MemPlace) (h : DataW.trod enc Tryd.prog W base sp held n 27 cs = some x) : ∃ l : List (List O3), ∃ u, cs = [u] ∧ Cds W u l := by
  obtain ⟨a, len, cap, rfl, hr⟩ := pk_slice (α := List O3) Tryd.underlying27 pcOps (by decide) (fun cs l => ∃ u, cs = [u] ∧ Ops W u l) pk_ops h
  rcases hr with rfl | ⟨b, off, rfl, hcap, hlt, l, rfl, hl⟩
  · exact ⟨[], _, rfl, Or.inl ⟨rfl, _, _, rfl⟩⟩
  · refine ⟨l, _, rfl, Or.inr ⟨b, off, cap, rfl, hcap, hlt, fun i c hc => ?_⟩⟩
    obtain ⟨us, _, ⟨u, rfl, hu⟩, hc⟩ := hl i c hc
    have := hc 0 (by omega)
    exact ⟨u, by simpa using this, hu⟩
set_option maxRecDepth 100000 in
/-- A plan that came in. -/
theorem open_plan {b0 : Nat} {r : Reach} {v : Value} {d : DataW H} {p : List MemPlace} (hv : Value.okWide Tryd.prog W r b0 31 v)
    (h : DataW.Trod enc Tryd.prog W base sp held 31 v d p) : ∃ (vc vs vw : Value) (p : PD), v = plV vc p.ticks vs vw ∧ Pln W vc vs vw p := by
  obtain ⟨v0, v1, v2, v3, y0, y1, y2, y3, m, rfl, _, _, h0, h1, h2, h3⟩ := Joins.open_agg4 Tryd.underlying31 (by kernel_rfl) (by kernel_rfl) hv h
  obtain ⟨cs, u0, e0, g0⟩ := pk_cds _ _ _ h0
  obtain ⟨n, e1, _, _⟩ := DataW.trod_int Tryd.underlying3 h1
  obtain ⟨ss, u2, e2, g2⟩ := pk_sps _ _ _ h2
  obtain ⟨ws, u3, e3, g3⟩ := pk_wrs _ _ _ h3
  simp only [List.cons.injEq, and_true] at e0 e1 e2 e3
  subst e0; subst e1; subst e2; subst e3
  exact ⟨_, _, _, ⟨cs, n, ss, ws⟩, rfl, g0, g2, g3⟩
end
end Go.Proofs.YtlegpedmfpbaiadDoor
namespace Go.Proofs.YtlegpedmfpbaiadDoor

/-- A wire that leads to a room, or comes from it. -/
def atR (r : Int) (l : LnD) : Bool := decide (l.w.1 = r) || decide (l.w.2.1 = r)
/-- What a room sees of a kernel's lines. -/
def seesK (k : KD) (r : Int) : List (List Int × Int) := (k.lines.filter (atR r)).map fun l => (l.xs, l.ls)
/-- A room's states ahead of each of n ticks, and behind the last one. -/
def statesK (p : PD) (n r : Nat) : List St := (List.range (n + 1)).map fun t => (kT p t).rooms.getD r stNew
theorem statesK_len (p : PD) (n r : Nat) : (statesK p n r).length = n + 1 := by simp [statesK]
theorem statesK_zero (p : PD) (r : Nat) : statesK p 0 r = [(newK p).rooms.getD r stNew] := by simp [statesK, kT]
theorem statesK_succ (p : PD) (n r : Nat) : statesK p (n + 1) r = statesK p n r ++ [(kT p (n + 1)).rooms.getD r stNew] := by
  unfold statesK
  rw [List.range_succ, List.map_append]
  rfl
theorem statesK_first (p : PD) (n r : Nat) : (statesK p n r)[0]? = some stNew := by
  have h : (newK p).rooms.getD r stNew = stNew := by
    unfold newK
    simp only [List.getD, List.getElem?_map]
    cases p.code[r]? <;> rfl
  rw [← h]
  simp [statesK, kT]
/-- What is wrong with a run. -/
def runE (p : PD) (n r : Int) : Int := if plchk p = 0 then (if r < 0 ∨ (p.code.length : Int) ≤ r ∨ n < 0 ∨ 2000 < n then 1 else 0) else plchk p
/-- Two states that look the same. -/
structure StSame (s t : St) : Prop where
  p : s.p = t.p
  c : ∀ i, i < 6 → s.c i = t.c i
  f : s.f = t.f
theorem StSame.refl (s : St) : StSame s s := ⟨rfl, fun _ _ => rfl, rfl⟩
theorem cells_same {o : O3} {c d : Nat → Int} {g : Int} {b : Bool} (h : ∀ i, i < 6 → c i = d i) (hA : o.2.1.toNat < 6) (hB : o.1 = 2 ∨ o.1 = 3 ∨ o.1 = 4 ∨ o.1 = 5 → o.2.2.toNat < 6) : ∀ i, i < 6 → cellsF o c g b i = cellsF o d g b i := fun i hi => by
  have hu : ∀ v, upd c o.2.1.toNat v i = upd d o.2.1.toNat v i := fun v => by
    unfold upd
    split
    · rfl
    · exact h i hi
  unfold cellsF
  split
  · exact hu _
  split
  · rename_i h2; rw [h _ (hB (by omega))]; exact hu _
  split
  · rename_i h3; rw [h _ hA, h _ (hB (by omega))]; exact hu _
  split
  · rename_i h4; rw [h _ hA, h _ (hB (by omega))]; exact hu _
  split
  · rename_i h5; rw [h _ hA, h _ (hB (by omega))]; exact hu _
  split
  · split
    · exact hu _
    · exact h i hi
  · exact h i hi
theorem step_same {o : O3} {s t : St} {n : Nat} {g : Int} {b : Bool} (h : StSame s t) (hA : o.2.1.toNat < 6) (hB : o.1 = 2 ∨ o.1 = 3 ∨ o.1 = 4 ∨ o.1 = 5 → o.2.2.toNat < 6) : StSame (stepF o s n g b) (stepF o t n g b) := by
  unfold stepF
  rw [← h.f]
  split
  · exact h
  · refine ⟨?_, cells_same h.c hA hB, rfl⟩
    show nextF o s n b = nextF o t n b
    unfold nextF
    rw [h.p, h.c _ hA]
theorem small_args {p : PD} {k : KD} {r : Nat} {c : List O3} {s : St} {o : O3} (h : Turn p k r c s o) : o.2.1.toNat < 6 ∧ (o.1 = 2 ∨ o.1 = 3 ∨ o.1 = 4 ∨ o.1 = 5 → o.2.2.toNat < 6) := by
  have hr := ok3_range h.ok
  have hb := (bA_le o.1).2
  refine ⟨by omega, fun hh => ?_⟩
  rcases hh with e | e | e | e <;> simp [e, bB] at hr <;> omega
/-- One turn of a room that sees the same. -/
theorem turn_same {p : PD} {k m : KD} {r : Nat} {c : List O3} {s t : St} {o : O3} (hk : Turn p k r c s o) (hm : Turn p m r c t o) (hs : StSame s t) (hl : o.1 = 8 ∨ o.1 = 9 → ∃ l, k.lines[o.2.2.toNat]? = some l ∧ m.lines[o.2.2.toNat]? = some l) (hrk : r < k.rooms.length) (hrm : r < m.rooms.length) :
    (turnK p k r).2 = (turnK p m r).2 ∧ ∃ s' t', (turnK p k r).1.rooms[r]? = some s' ∧ (turnK p m r).1.rooms[r]? = some t' ∧ StSame s' t' := by
  obtain ⟨hA, hB⟩ := small_args hk
  have hst : ∀ g b, StSame (stepF o s c.length g b) (stepF o t c.length g b) := fun g b => step_same hs hA hB
  cases hf : s.f with
  | true =>
    have hf' : t.f = true := by rw [← hs.f]; exact hf
    rw [turn_failed hk hf, turn_failed hm hf']
    exact ⟨by rw [hs.p], s, t, hk.hs, hm.hs, hs⟩
  | false =>
    have hf' : t.f = false := by rw [← hs.f]; exact hf
    by_cases h9 : o.1 = 9
    · obtain ⟨l, h1, h2⟩ := hl (Or.inr h9)
      cases hh : (headL l).2 with
      | true =>
        rw [turn_takes hk hf h9 h1 hh, turn_takes hm hf' h9 h2 hh]
        exact ⟨by rw [hs.p], _, _, List.getElem?_set_self hrk, List.getElem?_set_self hrm, hst _ _⟩
      | false =>
        rw [turn_waits hk hf h9 h1 hh, turn_waits hm hf' h9 h2 hh]
        exact ⟨by rw [hs.p], _, _, List.getElem?_set_self hrk, List.getElem?_set_self hrm, hst _ _⟩
    · by_cases h8 : o.1 = 8
      · obtain ⟨l, h1, h2⟩ := hl (Or.inl h8)
        rw [turn_sends hk hf h8 h1, turn_sends hm hf' h8 h2]
        exact ⟨by rw [hs.p], _, _, List.getElem?_set_self hrk, List.getElem?_set_self hrm, hst _ _⟩
      · rw [turn_else hk hf h8 h9, turn_else hm hf' h8 h9]
        exact ⟨by rw [hs.p], _, _, List.getElem?_set_self hrk, List.getElem?_set_self hrm, hst _ _⟩
/-- What is seen the same is the same line. -/
theorem sees_line : ∀ {ls ms : List LnD} {ws : List W4} {r : Int}, ls.length = ws.length → ms.length = ws.length → (∀ (i : Nat) l x, ls[i]? = some l → ws[i]? = some x → l.w = x) → (∀ (i : Nat) l x, ms[i]? = some l → ws[i]? = some x → l.w = x) →
    ((ls.filter (atR r)).map fun l => (l.xs, l.ls)) = ((ms.filter (atR r)).map fun l => (l.xs, l.ls)) → ∀ (i : Nat) x, ws[i]? = some x → x.1 = r ∨ x.2.1 = r → ls[i]? = ms[i]?
  | [], [], _, _, _, _, _, _, _, i, x, _, _ => by simp
  | [], _ :: _, ws, _, h1, h2, _, _, _, _, _, _, _ => by simp at h1 h2; omega
  | _ :: _, [], ws, _, h1, h2, _, _, _, _, _, _, _ => by simp at h1 h2; omega
  | l :: ls, m :: ms, [], _, h1, _, _, _, _, _, _, _, _ => by simp at h1
  | l :: ls, m :: ms, y :: ws, r, h1, h2, h3, h4, h5, i, x, hx, hr => by
    have e1 : l.w = y := h3 0 l y rfl rfl
    have e2 : m.w = y := h4 0 m y rfl rfl
    have ea : atR r m = atR r l := by unfold atR; rw [e1, e2]
    have rest : ((ls.filter (atR r)).map fun l => (l.xs, l.ls)) = ((ms.filter (atR r)).map fun l => (l.xs, l.ls)) ∧ (atR r l = true → l = m) := by
      cases hb : atR r l with
      | true =>
        rw [List.filter_cons_of_pos (by exact hb), List.filter_cons_of_pos (by rw [ea]; exact hb)] at h5
        simp only [List.map_cons, List.cons.injEq, Prod.mk.injEq] at h5
        refine ⟨h5.2, fun _ => ?_⟩
        obtain ⟨lw, lx, ll⟩ := l
        obtain ⟨mw, mx, ml⟩ := m
        simp only at e1 e2 h5
        rw [e1, e2, h5.1.1, h5.1.2]
      | false =>
        rw [List.filter_cons_of_neg (by rw [hb]; decide), List.filter_cons_of_neg (by rw [ea, hb]; decide)] at h5
        exact ⟨h5, fun h => by cases h⟩
    cases i with
    | zero =>
      simp only [List.getElem?_cons_zero, Option.some.injEq] at hx ⊢
      subst hx
      refine rest.2 ?_
      unfold atR
      rw [e1]
      rcases hr with hr | hr <;> simp [hr]
    | succ i =>
      simp only [List.getElem?_cons_succ] at hx ⊢
      exact sees_line (by simpa using h1) (by simpa using h2) (fun j l' x' hl hx => h3 (j + 1) l' x' (by simpa using hl) (by simpa using hx)) (fun j l' x' hl hx => h4 (j + 1) l' x' (by simpa using hl) (by simpa using hx)) rest.1 i x hx hr
/-- WHO SEES THE SAME DOES THE SAME: one tick. -/
theorem tick_same {p : PD} {k m : KD} (hp : plchk p = 0) (hk : KOk p k) (hm : KOk p m) (ht : k.time = m.time) {r : Nat} (hr : r < p.code.length) {s t : St} (hs : k.rooms[r]? = some s) (htt : m.rooms[r]? = some t) (hst : StSame s t) (hsee : seesK k r = seesK m r) :
    (tickK p p.spans k).2.2.1 = (tickK p p.spans m).2.2.1 ∧ ((tickK p p.spans k).2.2.1 = (r : Int) → (tickK p p.spans k).2 = (tickK p p.spans m).2 ∧ ∃ s' t', (tickK p p.spans k).1.rooms[r]? = some s' ∧ (tickK p p.spans m).1.rooms[r]? = some t' ∧ StSame s' t') := by
  have ew : whoK p k = whoK p m := by unfold whoK; rw [ht]
  refine ⟨by rw [(tick_told p k).2, (tick_told p m).2, ew], fun hw => ?_⟩
  rw [(tick_told p k).2] at hw
  have hwm : whoK p m = r := by rw [← ew]; exact hw
  have e1 : tickK p p.spans k = ((turnK p k r).1, k.time, (r : Int), (turnK p k r).2.1, (turnK p k r).2.2) := by
    unfold whoK at hw
    unfold tickK
    simp only [hw]
    rw [if_neg (by omega), Int.toNat_natCast]
  have e2 : tickK p p.spans m = ((turnK p m r).1, m.time, (r : Int), (turnK p m r).2.1, (turnK p m r).2.2) := by
    unfold whoK at hwm
    unfold tickK
    simp only [hwm]
    rw [if_neg (by omega), Int.toNat_natCast]
  obtain ⟨c, s0, o, tk⟩ := turn_of hp hk hr
  obtain rfl : s = s0 := Option.some.inj (hs.symm.trans tk.hs)
  have tm : Turn p m r c t o := ⟨tk.hc, htt, by rw [← hst.p]; exact tk.ho, tk.ck, hm.rooms r c t tk.hc htt, tk.ok⟩
  have hl : o.1 = 8 ∨ o.1 = 9 → ∃ l, k.lines[o.2.2.toNat]? = some l ∧ m.lines[o.2.2.toNat]? = some l := fun ho => by
    have hx : ∃ x, p.wires[o.2.2.toNat]? = some x ∧ (x.1 = (r : Int) ∨ x.2.1 = (r : Int)) := by
      have := op_wire hp tk.hc (List.mem_of_getElem? tk.ho)
      rcases ho with h8 | h9
      · obtain ⟨x, h1, h2⟩ := this.1 h8
        exact ⟨x, h1, Or.inl h2⟩
      · obtain ⟨x, h1, h2⟩ := this.2 h9
        exact ⟨x, h1, Or.inr h2⟩
    obtain ⟨x, hx1, hx2⟩ := hx
    have hlt : o.2.2.toNat < k.lines.length := by rw [hk.ll]; exact (List.getElem?_eq_some_iff.1 hx1).1
    have hl1 : k.lines[o.2.2.toNat]? = some k.lines[o.2.2.toNat] := List.getElem?_eq_getElem hlt
    have := sees_line hk.ll hm.ll (fun i l x h1 h2 => (hk.lines i l x h1 h2).w) (fun i l x h1 h2 => (hm.lines i l x h1 h2).w) hsee _ x hx1 hx2
    exact ⟨_, hl1, by rw [← this]; exact hl1⟩
  have hrl : r < k.rooms.length := by rw [hk.rl]; exact hr
  have hrm : r < m.rooms.length := by rw [hm.rl]; exact hr
  obtain ⟨q1, q2⟩ := turn_same tk tm hst hl hrl hrm
  rw [e1, e2]
  refine ⟨?_, q2⟩
  rw [ht, q1]
end Go.Proofs.YtlegpedmfpbaiadDoor
namespace Go.Proofs.YtlegpedmfpbaiadDoor
open Go.RowKit

/-- States as cells. -/
def stCells (l : List St) : List Value := l.flatMap fun s => [.int .i64 s.p, .int .i64 (s.c 0), .int .i64 (s.c 1), .int .i64 (s.c 2), .int .i64 (s.c 3), .int .i64 (s.c 4), .int .i64 (s.c 5), .bool s.f]
theorem stCells_snoc (l : List St) (s : St) : stCells (l ++ [s]) = stCells l ++ [.int .i64 s.p, .int .i64 (s.c 0), .int .i64 (s.c 1), .int .i64 (s.c 2), .int .i64 (s.c 3), .int .i64 (s.c 4), .int .i64 (s.c 5), .bool s.f] := by simp [stCells]
theorem stCells_at : ∀ (l : List St) (i : Nat) (s : St), l[i]? = some s → (stCells l)[i * 8]? = some (.int .i64 s.p) ∧ (stCells l)[i * 8 + 1]? = some (.int .i64 (s.c 0)) ∧ (stCells l)[i * 8 + 2]? = some (.int .i64 (s.c 1)) ∧ (stCells l)[i * 8 + 3]? = some (.int .i64 (s.c 2)) ∧ (stCells l)[i * 8 + 4]? = some (.int .i64 (s.c 3)) ∧ (stCells l)[i * 8 + 5]? = some (.int .i64 (s.c 4)) ∧ (stCells l)[i * 8 + 6]? = some (.int .i64 (s.c 5)) ∧ (stCells l)[i * 8 + 7]? = some (.bool s.f)
  | [], i, s, h => by simp at h
  | x :: l, 0, s, h => by simp at h; subst h; simp [stCells]
  | x :: l, i + 1, s, h => by
    have h1 := stCells_at l i s (by simpa using h)
    have e : ∀ j, (stCells (x :: l))[(i + 1) * 8 + j]? = (stCells l)[i * 8 + j]? := fun j => by
      show ([.int .i64 x.p, .int .i64 (x.c 0), .int .i64 (x.c 1), .int .i64 (x.c 2), .int .i64 (x.c 3), .int .i64 (x.c 4), .int .i64 (x.c 5), .bool x.f] ++ stCells l)[(i + 1) * 8 + j]? = _
      rw [List.getElem?_append_right (by simp; omega)]
      congr 1
      simp
      omega
    exact ⟨(e 0).trans h1.1, (e 1).trans h1.2.1, (e 2).trans h1.2.2.1, (e 3).trans h1.2.2.2.1, (e 4).trans h1.2.2.2.2.1, (e 5).trans h1.2.2.2.2.2.1, (e 6).trans h1.2.2.2.2.2.2.1, (e 7).trans h1.2.2.2.2.2.2.2⟩
theorem st_one (s : St) : ∀ u ∈ [Value.int .i64 s.p, .int .i64 (s.c 0), .int .i64 (s.c 1), .int .i64 (s.c 2), .int .i64 (s.c 3), .int .i64 (s.c 4), .int .i64 (s.c 5), .bool s.f], u.oneCell' = true := by
  intro u hu
  simp only [List.mem_cons, List.not_mem_nil, or_false] at hu
  rcases hu with rfl | rfl | rfl | rfl | rfl | rfl | rfl | rfl <;> rfl
theorem st_new {w : World} {k : Nat} (hk : k = w.heap.size) (s : St) (t : TypeId) : ∀ j u, [Value.int .i64 s.p, .int .i64 (s.c 0), .int .i64 (s.c 1), .int .i64 (s.c 2), .int .i64 (s.c 3), .int .i64 (s.c 4), .int .i64 (s.c 5), .bool s.f][j]? = some u → (w.alloc (.cells #[.int .i64 s.p, .int .i64 (s.c 0), .int .i64 (s.c 1), .int .i64 (s.c 2), .int .i64 (s.c 3), .int .i64 (s.c 4), .int .i64 (s.c 5), .bool s.f] t)).cell? ((⟨k, 0, none⟩ : Addr).add j) = some u := by
  intro j u hj
  subst hk
  rw [Addr.add_lit, Nat.zero_add]
  match j, hj with
  | 0, hj => simp at hj; subst hj; simp
  | 1, hj => simp at hj; subst hj; simp
  | 2, hj => simp at hj; subst hj; simp
  | 3, hj => simp at hj; subst hj; simp
  | 4, hj => simp at hj; subst hj; simp
  | 5, hj => simp at hj; subst hj; simp
  | 6, hj => simp at hj; subst hj; simp
  | 7, hj => simp at hj; subst hj; simp
  | j + 8, hj => simp at hj
theorem infoSt : (Tryd.prog.info? 48).map (fun i => (i.zero, i.size, i.bytes)) = some (some (.agg #[.int .i64 0, .int .i64 0, .int .i64 0, .int .i64 0, .int .i64 0, .int .i64 0, .int .i64 0, .bool false]), 8, 64) := by kernel_rfl
end Go.Proofs.YtlegpedmfpbaiadDoor
namespace Go.Proofs.YtlegpedmfpbaiadDoor
open Go.RowKit

/-- What lies in threes can be read cell by cell. -/
theorem trio_at {w : World} {b : Nat} : ∀ (l : List (Int × Int × Int)) (off : Nat), (∀ (i : Nat) o, l[i]? = some o → w.cell? ⟨b, off + i * 3, none⟩ = some (.int .i64 o.1) ∧ w.cell? ⟨b, off + i * 3 + 1, none⟩ = some (.int .i64 o.2.1) ∧ w.cell? ⟨b, off + i * 3 + 2, none⟩ = some (.int .i64 o.2.2)) → ∀ j u, (spCells l)[j]? = some u → w.cell? ((⟨b, off, none⟩ : Addr).add j) = some u
  | [], off, _, j, u, hj => by simp [spCells] at hj
  | x :: l, off, h, j, u, hj => by
    have e : spCells (x :: l) = [.int .i64 x.1, .int .i64 x.2.1, .int .i64 x.2.2] ++ spCells l := by simp [spCells]
    rw [e] at hj
    obtain ⟨h0, h1, h2⟩ := h 0 x (by simp)
    rw [Addr.add_lit]
    match j, hj with
    | 0, hj => simp at hj; subst hj; simpa using h0
    | 1, hj => simp at hj; subst hj; simpa using h1
    | 2, hj => simp at hj; subst hj; simpa using h2
    | j + 3, hj =>
      rw [List.getElem?_append_right (by simp)] at hj
      have ih := trio_at l (off + 3) (fun i o ho => by
        have := h (i + 1) o (by simpa using ho)
        rw [show off + (i + 1) * 3 = off + 3 + i * 3 by omega] at this
        exact this) j u (by simpa using hj)
      rw [Addr.add_lit] at ih
      rw [show off + (j + 3) = off + 3 + j by omega]
      exact ih
theorem spCells_len : ∀ l : List (Int × Int × Int), (spCells l).length = l.length * 3
  | [] => rfl
  | x :: l => by
    have e : spCells (x :: l) = [.int .i64 x.1, .int .i64 x.2.1, .int .i64 x.2.2] ++ spCells l := by simp [spCells]
    rw [e, List.length_append, spCells_len l, List.length_cons]
    simp
    omega
theorem spCells_one (l : List (Int × Int × Int)) : ∀ u ∈ spCells l, u.oneCell' = true := by
  intro u hu
  simp only [spCells, List.mem_flatMap] at hu
  obtain ⟨o, _, hu⟩ := hu
  simp at hu
  rcases hu with rfl | rfl | rfl <;> rfl
theorem ginfoOp : (Tryd.prog.info? 25).map (fun i => (i.zero, i.size, i.bytes)) = some (some (.agg #[.int .i64 0, .int .i64 0, .int .i64 0]), 3, 24) := by kernel_rfl
set_option maxRecDepth 100000 in
set_option maxHeartbeats 4000000 in
theorem clone_sp_nil (cap : Nat) (w : World) : Calls Tryd.prog 29 #[.slice none 0 cap] w fun e w' => e = .returned (.slice none 0 0) ∧ w' = w := by
  have q : ∀ (w : World) (a : Option Addr) (n c n' c' : Nat), (binOp .eql 29 (.slice a n c) (.slice none n' c')).run Tryd.prog w = .ok (.bool a.isNone) w := fun w a n c n' c' => Lib.run_eql_slice_nil w _ _ a n c n' c' Tryd.underlying29
  go_enter Tryd.func29, Tryd.ntmps29
  go_wp2
  go_ret
  exact ⟨rfl, rfl⟩
set_option maxRecDepth 100000 in
set_option maxHeartbeats 4000000 in
theorem clone_sp_some (ad : Addr) (cap : Nat) (l : List (Int × Int × Int)) (w : World) (hx : l.length ≤ 1000) (hc : ∀ j u, (spCells l)[j]? = some u → w.cell? (ad.add j) = some u) :
    Calls Tryd.prog 29 #[.slice (some ad) l.length cap] w fun e w' => ∃ v', e = .returned v' ∧ w'.ownsRow w.heap.size 42 3 v' l.length (spCells l) ∧ Below w.heap.size w w' := by
  obtain ⟨ii, hi, hz0, hz1, hz2⟩ := info_parts infoSp
  have q : ∀ (w : World) (a : Option Addr) (n c n' c' : Nat), (binOp .eql 29 (.slice a n c) (.slice none n' c')).run Tryd.prog w = .ok (.bool a.isNone) w := fun w a n c n' c' => Lib.run_eql_slice_nil w _ _ a n c n' c' Tryd.underlying29
  have HC : Hid (∀ j u, (spCells l)[j]? = some u → w.cell? (ad.add j) = some u) := hc
  clear hc
  go_enter Tryd.func29, Tryd.ntmps29
  go_wp2_with (at_builtin; refine wpList_append_at _ rfl _ _ 29 rfl w.heap.size 42 ii _ 3 24 Tryd.underlying29 hi hz0 hz1 hz2 rfl (by decide) _ _ _ rfl (World.ownsRow_made w #[] 0 (Nat.le_refl _) (Nat.zero_le _) rfl) ad l.length cap (spCells l) rfl ?c0A ?c1A ?c2A ?c3A ?c4A ?c5A ?_)
  case c0A => exact spCells_len l
  case c1A =>
    intro j u hj
    have h := HC.out j u hj
    exact (((Below.refl _ w).alloc (Nat.le_refl _) _).cell (p := ad.add j) (World.block_lt_of_cell? w _ h)).trans h
  case c2A => exact spCells_one l
  case c3A => unfold maxLen; omega
  case c4A => omega
  case c5A => simp
  intro v1 w2 own1 hg1 hat1
  clear q
  go_wp2
  go_ret
  refine ⟨v1, rfl, by simpa using own1, ((Below.refl _ w).alloc (Nat.le_refl _) _).grown hg1 (by simp) (by intro k hk; simp [Value.ownBlock] at hk; omega)⟩
set_option maxRecDepth 100000 in
set_option maxHeartbeats 4000000 in
theorem clone_op_nil (cap : Nat) (w : World) : Calls Tryd.prog 30 #[.slice none 0 cap] w fun e w' => e = .returned (.slice none 0 0) ∧ w' = w := by
  have q : ∀ (w : World) (a : Option Addr) (n c n' c' : Nat), (binOp .eql 26 (.slice a n c) (.slice none n' c')).run Tryd.prog w = .ok (.bool a.isNone) w := fun w a n c n' c' => Lib.run_eql_slice_nil w _ _ a n c n' c' Tryd.underlying26
  go_enter Tryd.func30, Tryd.ntmps30
  go_wp2
  go_ret
  exact ⟨rfl, rfl⟩
set_option maxRecDepth 100000 in
set_option maxHeartbeats 4000000 in
theorem clone_op_some (ad : Addr) (cap : Nat) (l : List (Int × Int × Int)) (w : World) (hx : l.length ≤ 1000) (hc : ∀ j u, (spCells l)[j]? = some u → w.cell? (ad.add j) = some u) :
    Calls Tryd.prog 30 #[.slice (some ad) l.length cap] w fun e w' => ∃ v', e = .returned v' ∧ w'.ownsRow w.heap.size 25 3 v' l.length (spCells l) ∧ Below w.heap.size w w' := by
  obtain ⟨ii, hi, hz0, hz1, hz2⟩ := info_parts ginfoOp
  have q : ∀ (w : World) (a : Option Addr) (n c n' c' : Nat), (binOp .eql 26 (.slice a n c) (.slice none n' c')).run Tryd.prog w = .ok (.bool a.isNone) w := fun w a n c n' c' => Lib.run_eql_slice_nil w _ _ a n c n' c' Tryd.underlying26
  have HC : Hid (∀ j u, (spCells l)[j]? = some u → w.cell? (ad.add j) = some u) := hc
  clear hc
  go_enter Tryd.func30, Tryd.ntmps30
  go_wp2_with (at_builtin; refine wpList_append_at _ rfl _ _ 26 rfl w.heap.size 25 ii _ 3 24 Tryd.underlying26 hi hz0 hz1 hz2 rfl (by decide) _ _ _ rfl (World.ownsRow_made w #[] 0 (Nat.le_refl _) (Nat.zero_le _) rfl) ad l.length cap (spCells l) rfl ?c0A ?c1A ?c2A ?c3A ?c4A ?c5A ?_)
  case c0A => exact spCells_len l
  case c1A =>
    intro j u hj
    have h := HC.out j u hj
    exact (((Below.refl _ w).alloc (Nat.le_refl _) _).cell (p := ad.add j) (World.block_lt_of_cell? w _ h)).trans h
  case c2A => exact spCells_one l
  case c3A => unfold maxLen; omega
  case c4A => omega
  case c5A => simp
  intro v1 w2 own1 hg1 hat1
  clear q
  go_wp2
  go_ret
  refine ⟨v1, rfl, by simpa using own1, ((Below.refl _ w).alloc (Nat.le_refl _) _).grown hg1 (by simp) (by intro k hk; simp [Value.ownBlock] at hk; omega)⟩
theorem clone_sps (l : List S3) (v : Value) (w : World) (h : Sps w v l) (hx : l.length ≤ 1000) :
    Calls Tryd.prog 29 #[v] w fun e w' => ∃ v', e = .returned v' ∧ w'.ownsRow w.heap.size 42 3 v' l.length (spCells l) ∧ Below w.heap.size w w' := by
  rcases h with ⟨rfl, ao, cap, rfl⟩ | ⟨b, off, cap, rfl, hcap, hlt, hc⟩
  · cases ao with
    | none =>
      refine (clone_sp_nil cap w).mono ?_
      rintro e w' ⟨rfl, rfl⟩
      exact ⟨_, rfl, World.ownsRow_nil _ _ _ _, Below.refl _ _⟩
    | some ad => exact clone_sp_some ad cap [] w (Nat.zero_le _) (fun j u hj => by simp [spCells] at hj)
  · exact clone_sp_some ⟨b, off, none⟩ cap l w hx (trio_at l off hc)
theorem clone_ops (l : List O3) (v : Value) (w : World) (h : Ops w v l) (hx : l.length ≤ 1000) :
    Calls Tryd.prog 30 #[v] w fun e w' => ∃ v', e = .returned v' ∧ w'.ownsRow w.heap.size 25 3 v' l.length (spCells l) ∧ Below w.heap.size w w' := by
  rcases h with ⟨rfl, ao, cap, rfl⟩ | ⟨b, off, cap, rfl, hlt, hc⟩
  · cases ao with
    | none =>
      refine (clone_op_nil cap w).mono ?_
      rintro e w' ⟨rfl, rfl⟩
      exact ⟨_, rfl, World.ownsRow_nil _ _ _ _, Below.refl _ _⟩
    | some ad => exact clone_op_some ad cap [] w (Nat.zero_le _) (fun j u hj => by simp [spCells] at hj)
  · exact clone_op_some ⟨b, off, none⟩ cap l w hx (trio_at l off hc)
/-- Ops in a row of their own can be read. -/
theorem gops_own {w : World} {base : Nat} {v : Value} {l : List O3} (h : w.ownsRow base 25 3 v l.length (spCells l)) : Ops w v l := by
  have hl := h.lt
  have hcs := @World.ownsRow.cells _ _ _ _ _ _ _ h
  rcases h.2 with ⟨rfl, h0⟩ | ⟨g, cap, cur, rfl, _, _, hcap, _⟩
  · exact Or.inl ⟨List.eq_nil_of_length_eq_zero h0, _, _, rfl⟩
  · have hat : ∀ j u, (spCells l)[j]? = some u → w.cell? ⟨g, j, none⟩ = some u := fun j u hu => by
      have := hcs rfl j u hu
      rwa [Addr.add_lit, Nat.zero_add] at this
    refine Or.inr ⟨g, 0, cap, rfl, (hl g rfl).2, fun i o ho => ?_⟩
    obtain ⟨h1, h2, h3⟩ := spCells_at l i o ho
    exact ⟨by simpa using hat _ _ h1, by simpa using hat _ _ h2, by simpa using hat _ _ h3⟩
end Go.Proofs.YtlegpedmfpbaiadDoor
namespace Go.Proofs.YtlegpedmfpbaiadDoor
open Go.RowKit

/-- States in a row that can be read. -/
def StL (w : World) (v : Value) (l : List St) : Prop :=
  (l = [] ∧ ∃ ao cap, v = .slice ao 0 cap) ∨ ∃ b off cap, v = .slice (some ⟨b, off, none⟩) l.length cap ∧ l.length ≤ cap ∧ b < w.heap.size ∧ ∀ (i : Nat) s, l[i]? = some s → StC w b (off + i * 8) s
theorem StL.form {w : World} {v : Value} {l : List St} (h : StL w v l) : ∃ ao cap, v = .slice ao l.length cap := by
  rcases h with ⟨rfl, ao, cap, rfl⟩ | ⟨b, off, cap, rfl, _⟩
  · exact ⟨ao, cap, rfl⟩
  · exact ⟨_, cap, rfl⟩
theorem StL.all {w w' : World} {v : Value} {l : List St} (h : StL w v l) (hb : Below w.heap.size w w') : StL w' v l := by
  rcases h with h | ⟨b, off, cap, rfl, hcap, hlt, hc⟩
  · exact Or.inl h
  · exact Or.inr ⟨b, off, cap, rfl, hcap, Nat.lt_of_lt_of_le hlt hb.size, fun i s hi => (hc i s hi).block (hb.block b hlt)⟩
theorem StL.own {w : World} {base : Nat} {v : Value} {l : List St} (h : w.ownsRow base 48 8 v l.length (stCells l)) : StL w v l := by
  have hl := h.lt
  have hcs := @World.ownsRow.cells _ _ _ _ _ _ _ h
  rcases h.2 with ⟨rfl, h0⟩ | ⟨g, cap, cur, rfl, _, _, hcap, _⟩
  · exact Or.inl ⟨List.eq_nil_of_length_eq_zero h0, _, _, rfl⟩
  · have hat : ∀ j u, (stCells l)[j]? = some u → w.cell? ⟨g, j, none⟩ = some u := fun j u hu => by
      have := hcs rfl j u hu
      rwa [Addr.add_lit, Nat.zero_add] at this
    refine Or.inr ⟨g, 0, cap, rfl, hcap, (hl g rfl).2, fun i s hs => ?_⟩
    obtain ⟨q0, q1, q2, q3, q4, q5, q6, q7⟩ := stCells_at l i s hs
    rw [Nat.zero_add]
    exact ⟨hat _ _ q0, hat _ _ q1, hat _ _ q2, hat _ _ q3, hat _ _ q4, hat _ _ q5, hat _ _ q6, hat _ _ q7⟩
end Go.Proofs.YtlegpedmfpbaiadDoor
namespace Go.Proofs.YtlegpedmfpbaiadDoor
open Go.RowKit

/-- Run: the states of a room of a new kernel. -/
def SgtRun (G : World → Prop) : Prop := ∀ (p : PD) (vc vs vw : Value) (n r : Int) (W : World), G W → Pln W vc vs vw p → Calls Tryd.prog 19 #[plV vc p.ticks vs vw, .int .i64 n, .int .i64 r] W fun e w' => ∃ v, e = .returned (.tuple #[v, wErr (runE p n r)]) ∧ StL w' v (if runE p n r = 0 then statesK p n.toNat r.toNat else []) ∧ Below W.heap.size W w'
end Go.Proofs.YtlegpedmfpbaiadDoor
namespace Go.Proofs.YtlegpedmfpbaiadDoor
open Go.RowKit

/-- What wires hold, in a row that can be read. -/
def HdL (w : World) (v : Value) (l : List (List Int × Int)) : Prop :=
  (l = [] ∧ ∃ ao cap, v = .slice ao 0 cap) ∨ ∃ b off cap, v = .slice (some ⟨b, off, none⟩) l.length cap ∧ b < w.heap.size ∧ ∀ (i : Nat) x, l[i]? = some x → ∃ u, w.cell? ⟨b, off + i * 2, none⟩ = some u ∧ w.cell? ⟨b, off + i * 2 + 1, none⟩ = some (.int .i64 x.2) ∧ Rd w u x.1
theorem HdL.form {w : World} {v : Value} {l : List (List Int × Int)} (h : HdL w v l) : ∃ ao cap, v = .slice ao l.length cap := by
  rcases h with ⟨rfl, ao, cap, rfl⟩ | ⟨b, off, cap, rfl, _⟩
  · exact ⟨ao, cap, rfl⟩
  · exact ⟨_, cap, rfl⟩
theorem HdL.all {w w' : World} {v : Value} {l : List (List Int × Int)} (h : HdL w v l) (hb : Below w.heap.size w w') : HdL w' v l := by
  rcases h with h | ⟨b, off, cap, rfl, hlt, hc⟩
  · exact Or.inl h
  · refine Or.inr ⟨b, off, cap, rfl, Nat.lt_of_lt_of_le hlt hb.size, fun i x hi => ?_⟩
    obtain ⟨u, h1, h2, h3⟩ := hc i x hi
    exact ⟨u, (hb.cell (p := ⟨b, _, none⟩) hlt).trans h1, (hb.cell (p := ⟨b, _, none⟩) hlt).trans h2, h3.all hb⟩
/-- Short rows alone. -/
def ShortH (l : List (List Int × Int)) : Prop := ∀ x ∈ l, x.1.length ≤ 1000000
set_option maxRecDepth 1000000 in
set_option maxHeartbeats 4000000 in
theorem helds2_some (la lb : List (List Int × Int)) (a ao ac b bo bc : Nat) (w : World) (ha : a < w.heap.size) (hb : b < w.heap.size) (hlen : la.length = lb.length) (hl : la.length ≤ 1000000) (hsh : ShortH la)
    (hca : ∀ (i : Nat) x, la[i]? = some x → ∃ u, w.cell? ⟨a, ao + i * 2, none⟩ = some u ∧ w.cell? ⟨a, ao + i * 2 + 1, none⟩ = some (.int .i64 x.2) ∧ Rd w u x.1) (hcb : ∀ (i : Nat) x, lb[i]? = some x → ∃ u, w.cell? ⟨b, bo + i * 2, none⟩ = some u ∧ w.cell? ⟨b, bo + i * 2 + 1, none⟩ = some (.int .i64 x.2) ∧ Rd w u x.1) :
    Calls Tryd.prog 21 #[.slice (some ⟨a, ao, none⟩) la.length ac, .slice (some ⟨b, bo, none⟩) la.length bc] w fun e w' => e = .returned (.bool (decide (la = lb))) ∧ Below w.heap.size w w' := by
  have HL : Hid (la.length = lb.length) := hlen
  clear hlen
  go_enter Tryd.func21, Tryd.ntmps21
  go_wp2
  go_loopw [5] (fun i wr => ∃ k : Nat, k ≤ la.length ∧ i = .int .i64 k ∧ (∀ j : Nat, j < k → la[j]? = lb[j]?) ∧ Below w.heap.size w wr) (fun i _ => la.length - (intOf i).toNat)
  case atStart => exact ⟨0, Nat.zero_le _, rfl, fun j hj => by omega, Below.refl _ _⟩
  case round =>
    obtain ⟨k, hk, rfl, hall, hbw⟩ := hrel
    have HA : Hid (∀ j : Nat, j < k → la[j]? = lb[j]?) := hall
    clear hall
    by_cases hkl : k < la.length
    · obtain ⟨x, ho⟩ : ∃ o, la[k]? = some o := ⟨la[k], List.getElem?_eq_getElem hkl⟩
      obtain ⟨y, hp⟩ : ∃ p, lb[k]? = some p := ⟨lb[k]'(by rw [← HL.out]; exact hkl), List.getElem?_eq_getElem _⟩
      obtain ⟨u, e0, e1, e2⟩ := hca k x ho
      obtain ⟨v, f0, f1, f2⟩ := hcb k y hp
      replace e0 := (hbw.cell (p := ⟨a, ao + k * 2, none⟩) ha).trans e0
      replace e1 := (hbw.cell (p := ⟨a, ao + k * 2 + 1, none⟩) ha).trans e1
      replace f0 := (hbw.cell (p := ⟨b, bo + k * 2, none⟩) hb).trans f0
      replace f1 := (hbw.cell (p := ⟨b, bo + k * 2 + 1, none⟩) hb).trans f1
      have HO : Hid (la[k]? = some x) := ho
      have HP : Hid (lb[k]? = some y) := hp
      have hxl : x.1.length ≤ 1000000 := hsh x (List.mem_of_getElem? ho)
      have HH : Hid (∀ W, Below wr.heap.size wr W → Calls Tryd.prog 16 #[.agg #[u, .int .i64 x.2], .agg #[v, .int .i64 y.2]] W fun e w' => e = .returned (.bool (decide (x = y))) ∧ Below W.heap.size W w') := fun W hbW => held2_any u v x.1 y.1 x.2 y.2 W (e2.all (hbw.trans (hbW.mono hbw.size))) (f2.all (hbw.trans (hbW.mono hbw.size))) hxl
      clear ho hp e2 f2
      have hki : (k : Int) < (la.length : Int) := by omega
      have bQ : Below wr.heap.size wr wr.drew := (Below.refl _ _).drew
      have haw : a < wr.heap.size := Nat.lt_of_lt_of_le ha hbw.size
      have hbwr : b < wr.heap.size := Nat.lt_of_lt_of_le hb hbw.size
      have hcs : ∀ W, Below wr.heap.size wr W → W.cell? ⟨a, ao + k * 2, none⟩ = some u ∧ W.cell? ⟨a, ao + k * 2 + 1, none⟩ = some (.int .i64 x.2) ∧ W.cell? ⟨b, bo + k * 2, none⟩ = some v ∧ W.cell? ⟨b, bo + k * 2 + 1, none⟩ = some (.int .i64 y.2) := fun W hW => ⟨(hW.cell (p := ⟨a, _, none⟩) haw).trans e0, (hW.cell (p := ⟨a, _, none⟩) haw).trans e1, (hW.cell (p := ⟨b, _, none⟩) hbwr).trans f0, (hW.cell (p := ⟨b, _, none⟩) hbwr).trans f1⟩
      obtain ⟨q, hq⟩ : ∃ q, decide (x = y) = q := ⟨_, rfl⟩
      rw [hq] at HH
      have HQ : Hid (decide (x = y) = q) := hq
      clear hq
      go_upto_region 6 with fail
      go_region_held3 (fun W => W.cell? ⟨a, ao + k * 2, none⟩ = some u ∧ W.cell? ⟨a, ao + k * 2 + 1, none⟩ = some (.int .i64 x.2) ∧ W.cell? ⟨b, bo + k * 2, none⟩ = some v ∧ W.cell? ⟨b, bo + k * 2 + 1, none⟩ = some (.int .i64 y.2))
        (first | exact ⟨e0, e1, f0, f1⟩ | exact hcs _ bW | go_keep)
        (first
          | (go_at_call 16; refine (HH.out _ bQ).mono ?_; rintro e w1 ⟨rfl, b1⟩; have bW : Below wr.heap.size wr w1 := bQ.trans (b1.mono (Nat.le_refl _))))
      cases q with
      | true =>
        go_wp2
        go_roundw
        case rel =>
          refine ⟨k + 1, by omega, by go_num, fun j hj => ?_, hbw.trans (bW.mono hbw.size)⟩
          by_cases hjk : j < k
          · exact HA.out j hjk
          · obtain rfl : j = k := by omega
            rw [HO.out, HP.out, of_decide_eq_true HQ.out]
        case measure => simp [intOf]; omega
      | false =>
        have HN : Hid (decide (la = lb) = false) := by
          show _ = _
          simp only [decide_eq_false_iff_not]
          intro e
          have h1 := HO.out
          rw [e, HP.out] at h1
          exact of_decide_eq_false HQ.out (Option.some.inj h1).symm
        go_wp2
        go_ret
        exact ⟨wretB HN.out.symm, hbw.trans (bW.mono hbw.size)⟩
    · have HN : Hid (decide (la = lb) = true) := by
        show _ = _
        simp only [decide_eq_true_eq]
        apply List.ext_getElem?
        intro j
        by_cases hj : j < k
        · exact HA.out j hj
        · rw [List.getElem?_eq_none (by omega), List.getElem?_eq_none (by rw [← HL.out]; omega)]
      go_wp2
      go_ret
      exact ⟨wretB HN.out.symm, hbw⟩
set_option maxRecDepth 1000000 in
set_option maxHeartbeats 4000000 in
theorem helds2_other (n m ac bc : Nat) (a b : Option Addr) (w : World) (h : ((n : Int) == (m : Int)) = false) :
    Calls Tryd.prog 21 #[.slice a n ac, .slice b m bc] w fun e w' => e = .returned (.bool false) ∧ Below w.heap.size w w' := by
  go_enter Tryd.func21, Tryd.ntmps21
  go_wp2
  go_ret
  exact ⟨rfl, Below.refl _ _⟩
set_option maxRecDepth 1000000 in
set_option maxHeartbeats 4000000 in
theorem helds2_nil (a b : Option Addr) (ac bc : Nat) (w : World) :
    Calls Tryd.prog 21 #[.slice a 0 ac, .slice b 0 bc] w fun e w' => e = .returned (.bool true) ∧ Below w.heap.size w w' := by
  go_enter Tryd.func21, Tryd.ntmps21
  go_wp2
  refine wp_loop_rounds 1 ?_
  rw [rounds_succ]
  go_wp2
  go_ret
  exact ⟨rfl, Below.refl _ _⟩
theorem helds2_any (va vb : Value) (la lb : List (List Int × Int)) (w : World) (ha : HdL w va la) (hb : HdL w vb lb) (hl : la.length ≤ 1000000) (hsh : ShortH la) :
    Calls Tryd.prog 21 #[va, vb] w fun e w' => e = .returned (.bool (decide (la = lb))) ∧ Below w.heap.size w w' := by
  by_cases hlen : la.length = lb.length
  · rcases ha with ⟨rfl, ao, ac, rfl⟩ | ⟨a, ao, ac, rfl, hlta, hca⟩
    · have hlb : lb = [] := List.eq_nil_of_length_eq_zero (by simpa using hlen.symm)
      subst hlb
      obtain ⟨bo, bc, hvb⟩ := hb.form
      rw [hvb]
      exact helds2_nil ao bo ac bc w
    · rcases hb with ⟨rfl, bo, bc, rfl⟩ | ⟨b, bo, bc, rfl, hltb, hcb⟩
      · have hla : la = [] := List.eq_nil_of_length_eq_zero (by simpa using hlen)
        subst hla
        exact helds2_nil _ bo ac bc w
      · rw [← hlen]
        exact helds2_some la lb a ao ac b bo bc w hlta hltb hlen hl hsh hca hcb
  · obtain ⟨ao, ac, rfl⟩ := ha.form
    obtain ⟨bo, bc, rfl⟩ := hb.form
    rw [show decide (la = lb) = false by simp only [decide_eq_false_iff_not]; intro e; exact hlen (by rw [e])]
    exact helds2_other _ _ _ _ _ _ w (by simp; omega)
end Go.Proofs.YtlegpedmfpbaiadDoor
namespace Go.Proofs.YtlegpedmfpbaiadDoor
open Go.RowKit

structure HdR (B : Nat) (W : World) (v : Value) (l : List (Value × Int)) (xs : List (List Int × Int)) : Prop where
  own : W.ownsRow B 58 2 v l.length (hdCells l)
  len : l.length = xs.length
  rd : ∀ (i : Nat) x y, l[i]? = some x → xs[i]? = some y → Rd W x.1 y.1 ∧ x.2 = y.2
  ap : ∀ x ∈ l, ∀ g, x.1.ownBlock = some g → g < W.heap.size ∧ v.ownBlock ≠ some g
theorem HdR.nil (B : Nat) (W : World) : HdR B W (.slice none 0 0) [] [] := ⟨World.ownsRow_nil _ _ _ _, rfl, fun i x y h => by simp at h, fun x hx => by cases hx⟩
theorem HdR.hdl {B : Nat} {W : World} {v : Value} {l : List (Value × Int)} {xs : List (List Int × Int)} (h : HdR B W v l xs) : HdL W v xs := by
  have hlt := h.own.lt
  have hcs := @World.ownsRow.cells _ _ _ _ _ _ _ h.own
  rcases h.own.2 with ⟨rfl, h0⟩ | ⟨g, cap, cur, rfl, _, _, hcap, _⟩
  · exact Or.inl ⟨List.eq_nil_of_length_eq_zero (by rw [← h.len]; exact h0), _, _, rfl⟩
  · have hat : ∀ j u, (hdCells l)[j]? = some u → W.cell? ⟨g, j, none⟩ = some u := fun j u hu => by
      have := hcs rfl j u hu
      rwa [Addr.add_lit, Nat.zero_add] at this
    refine Or.inr ⟨g, 0, cap, by rw [h.len], (hlt g rfl).2, fun i y hy => ?_⟩
    have hil : i < l.length := by rw [h.len]; exact (List.getElem?_eq_some_iff.1 hy).1
    have hx : l[i]? = some l[i] := List.getElem?_eq_getElem hil
    obtain ⟨q0, q1⟩ := hdCells_at l i _ hx
    obtain ⟨r0, r1⟩ := h.rd i _ y hx hy
    rw [Nat.zero_add]
    exact ⟨_, hat _ _ q0, by rw [← r1]; exact hat _ _ q1, r0⟩
theorem HdR.all {B : Nat} {W W' : World} {v : Value} {l : List (Value × Int)} {xs : List (List Int × Int)} (h : HdR B W v l xs) (hb : Below W.heap.size W W') : HdR B W' v l xs :=
  ⟨own_below h.own hb (Nat.le_refl _), h.len, fun i x y hx hy => ⟨(h.rd i x y hx hy).1.all hb, (h.rd i x y hx hy).2⟩, fun x hx g hg => ⟨Nat.lt_of_lt_of_le (h.ap x hx g hg).1 hb.size, (h.ap x hx g hg).2⟩⟩
/-- One more. -/
theorem HdR.more {B : Nat} {W w8 : World} {v v' u : Value} {l : List (Value × Int)} {xs : List (List Int × Int)} {y : List Int × Int} (h : HdR B W v l xs) (hu : Rd W u y.1) (hua : ∀ g, u.ownBlock = some g → g < W.heap.size ∧ v.ownBlock ≠ some g) {o : Obj} (hg : (W.alloc o).grownBy w8 v.ownBlock)
    (hown : w8.ownsRow B 58 2 v' (l.length + 1) (hdCells l ++ [u, .int .i64 y.2])) (hnew : ∀ g, v'.ownBlock = some g → v.ownBlock = some g ∨ W.heap.size + 1 ≤ g) : HdR B w8 v' (l ++ [(u, y.2)]) (xs ++ [y]) := by
  have hs2 : (W.alloc o).heap.size = W.heap.size + 1 := by simp
  have hs8 : W.heap.size + 1 ≤ w8.heap.size := by have := hg.size; omega
  have hk : ∀ g, g < W.heap.size → v.ownBlock ≠ some g → w8.heap[g]? = W.heap[g]? := fun g h1 h2 => (hg.block g (by omega) (fun e => h2 e.symm)).trans (Below.heap_alloc _ _ _ h1)
  refine ⟨by rw [List.length_append, hdCells_snoc]; exact hown, by simp [h.len], fun i x z hx hz => ?_, fun x hx g hgx => ?_⟩
  · by_cases hil : i < l.length
    · rw [List.getElem?_append_left hil] at hx
      rw [List.getElem?_append_left (by rw [← h.len]; exact hil)] at hz
      obtain ⟨h1, h2⟩ := h.rd i x z hx hz
      exact ⟨h1.block (fun g hg' he => hk g hg' (h.ap x (List.mem_of_getElem? hx) g he).2) (by omega), h2⟩
    · have hlt := (List.getElem?_eq_some_iff.1 hx).1
      rw [List.length_append, List.length_singleton] at hlt
      obtain rfl : i = l.length := by omega
      rw [List.getElem?_append_right (Nat.le_refl _), Nat.sub_self] at hx
      rw [List.getElem?_append_right (by rw [h.len]; exact Nat.le_refl _), h.len, Nat.sub_self] at hz
      simp only [List.getElem?_cons_zero, Option.some.injEq] at hx hz
      subst hx
      subst hz
      exact ⟨hu.block (fun g hg' he => hk g hg' (hua g he).2) (by omega), rfl⟩
  · have hq : g < W.heap.size ∧ v.ownBlock ≠ some g := by
      rcases List.mem_append.1 hx with h1 | h1
      · exact h.ap x h1 g hgx
      · rw [List.mem_singleton] at h1
        subst h1
        exact hua g hgx
    refine ⟨by omega, fun e => ?_⟩
    rcases hnew g e with h5 | h5
    · exact hq.2 h5
    · omega
end Go.Proofs.YtlegpedmfpbaiadDoor
namespace Go.Proofs.YtlegpedmfpbaiadDoor
open Go.RowKit

/-- Of: what a room sees of a kernel of a plan. -/
def SgtOf {G : World → Prop} (C : KerC G) : Prop := ∀ {w0 W p vc vs vw k kb F} (ic is iw : Value) (r : Int), G w0 → C.K w0 W p vc vs vw k kb F → KOk p k → plchk p = 0 → Pln W ic is iw p → Calls Tryd.prog 18 #[.pointer (some ⟨kb, 0, none⟩), plV ic p.ticks is iw, .int .i64 r] W fun e w' => ∃ v, e = .returned (.tuple #[stA (roomK k r), v, wErr (errB (noRoom k r))]) ∧ HdL w' v (if noRoom k r = true then [] else seesK k r) ∧ Below W.heap.size W w'
end Go.Proofs.YtlegpedmfpbaiadDoor
namespace Go.Proofs.YtlegpedmfpbaiadDoor
open Go.RowKit

/-- Neither has what the other one has. -/
structure KK {G : World → Prop} (C : KerC G) (w1 wr : World) (p : PD) (vc vs vw : Value) (k m : KD) (kb mb : Nat) (F H : List Nat) : Prop where
  K : C.K w1 wr p vc vs vw k kb F
  M : C.K w1 wr p vc vs vw m mb H
  ap : ∀ g ∈ F, g ∉ H
  ok : KOk p k
  ok' : KOk p m
theorem KK.lt {G : World → Prop} {C : KerC G} {w1 wr : World} {p : PD} {vc vs vw : Value} {k m : KD} {kb mb : Nat} {F H : List Nat} (h : KK C w1 wr p vc vs vw k m kb mb F H) : ∀ g ∈ F ++ H, w1.heap.size ≤ g ∧ g < wr.heap.size := fun g hg => by
  rcases List.mem_append.1 hg with h1 | h1
  · exact C.ge h.K g h1
  · exact C.ge h.M g h1
theorem KK.all {G : World → Prop} {C : KerC G} {w1 wr w' : World} {p : PD} {vc vs vw : Value} {k m : KD} {kb mb : Nat} {F H : List Nat} (h : KK C w1 wr p vc vs vw k m kb mb F H) (hb : Below wr.heap.size wr w') : KK C w1 w' p vc vs vw k m kb mb F H :=
  ⟨C.frame h.K (KTouch.of (M := []) hb) (by simp), C.frame h.M (KTouch.of (M := []) hb) (by simp), h.ap, h.ok, h.ok'⟩
/-- Blocks of the caller's own are written. -/
theorem KK.set {G : World → Prop} {C : KerC G} {w1 wr w' : World} {p : PD} {vc vs vw : Value} {k m : KD} {kb mb : Nat} {F H : List Nat} (h : KK C w1 wr p vc vs vw k m kb mb F H) {b : Nat} (ht : KTouch [b] wr w') (hb : b ∉ F ++ H) (hw : w1.heap.size ≤ b) : KK C w1 w' p vc vs vw k m kb mb F H := by
  have h1 : b ∉ F := fun e => hb (List.mem_append.2 (Or.inl e))
  have h2 : b ∉ H := fun e => hb (List.mem_append.2 (Or.inr e))
  refine ⟨C.frame h.K ht (fun x hx => ?_), C.frame h.M ht (fun x hx => ?_), h.ap, h.ok, h.ok'⟩
  · rw [List.mem_singleton] at hx
    subst hx
    exact ⟨h1, hw⟩
  · rw [List.mem_singleton] at hx
    subst hx
    exact ⟨h2, hw⟩
/-- What came of a call on both. -/
structure KWent {G : World → Prop} (C : KerC G) (w1 W w' : World) (p : PD) (vc vs vw : Value) (k m : KD) (kb mb : Nat) (F H F' H' : List Nat) : Prop where
  kk : KK C w1 w' p vc vs vw k m kb mb F' H'
  touch : KTouch (F ++ H) W w'
  new : ∀ g ∈ F' ++ H', g ∈ F ++ H ∨ W.heap.size ≤ g
theorem KWent.keep {G : World → Prop} {C : KerC G} {w1 W w' : World} {p : PD} {vc vs vw : Value} {k m : KD} {kb mb : Nat} {F H F' H' : List Nat} (h : KWent C w1 W w' p vc vs vw k m kb mb F H F' H') {b : Nat} (hb : b < W.heap.size) (hn : b ∉ F ++ H) : w'.heap[b]? = W.heap[b]? ∧ b ∉ F' ++ H' := by
  refine ⟨h.touch.block b hb hn, fun hm => ?_⟩
  rcases h.new b hm with h1 | h1
  · exact hn h1
  · omega
/-- A tick of both, one behind the other; in between the caller lays memory of its own. -/
theorem kk_tick {G : World → Prop} {C : KerC G} {w1 W : World} {p : PD} {vc vs vw : Value} {k m : KD} {kb mb : Nat} {F H : List Nat} (hG : G w1) (hp : plchk p = 0) (ht : k.time < 1000000) (ht' : m.time < 1000000) (h : KK C w1 W p vc vs vw k m kb mb F H) :
    Calls Tryd.prog 11 #[.pointer (some ⟨kb, 0, none⟩)] W fun e w2 => e = .returned (evA (tickK p p.spans k).2) ∧ KTouch (F ++ H) W w2 ∧ ∀ w3, Below w2.heap.size w2 w3 →
      Calls Tryd.prog 11 #[.pointer (some ⟨mb, 0, none⟩)] w3 fun e w' => e = .returned (evA (tickK p p.spans m).2) ∧ ∃ F' H', KWent C w1 W w' p vc vs vw (tickK p p.spans k).1 (tickK p p.spans m).1 kb mb F H F' H' ∧ KTouch (F ++ H) w3 w' := by
  refine (C.tick hG h.K hp h.ok ht).mono ?_
  rintro e w2 ⟨rfl, F', hK', tk, hF'⟩
  have hM2 := C.frame h.M tk (fun x hx => ⟨h.ap x hx, (C.ge h.K x hx).1⟩)
  refine ⟨rfl, tk.mono (fun x hx => List.mem_append.2 (Or.inl hx)), fun w3 hb => ?_⟩
  refine (C.tick hG (C.frame hM2 (KTouch.of (M := []) hb) (by simp)) hp h.ok' ht').mono ?_
  rintro e w' ⟨rfl, H', hM', tk2, hH'⟩
  have hs2 := tk.size
  have hs3 := hb.size
  have hap : ∀ g ∈ F', g ∉ H := fun g hg hm => by
    rcases hF' g hg with h1 | h1
    · exact h.ap g h1 hm
    · have := (C.ge h.M g hm).2
      omega
  have hK3 := C.frame hK' (KTouch.of (M := []) hb) (by simp)
  have hflt := fun g hg => (C.ge hK3 g hg).2
  refine ⟨rfl, F', H', ⟨⟨C.frame hK3 tk2 (fun x hx => ⟨fun hm => hap x hm hx, (C.ge h.M x hx).1⟩), hM', fun g hg hm => ?_, tick_ok hp h.ok, tick_ok hp h.ok'⟩, ?_, fun g hg => ?_⟩, tk2.mono (fun x hx => List.mem_append.2 (Or.inr hx))⟩
  · rcases hH' g hm with h1 | h1
    · exact hap g hg h1
    · have := hflt g hg
      omega
  · exact ((tk.mono (fun x hx => List.mem_append.2 (Or.inl hx))).trans (KTouch.of hb)).trans (tk2.mono (fun x hx => List.mem_append.2 (Or.inr hx)))
  · rcases List.mem_append.1 hg with h1 | h1
    · rcases hF' g h1 with h2 | h2
      · exact Or.inl (List.mem_append.2 (Or.inl h2))
      · exact Or.inr h2
    · rcases hH' g h1 with h2 | h2
      · exact Or.inl (List.mem_append.2 (Or.inr h2))
      · exact Or.inr (by omega)
/-- Both are new, and the second one is poked. -/
theorem kk_new {G : World → Prop} {C : KerC G} {w1 w2 w3 : World} {p : PD} {vc vs vw : Value} {kb mb : Nat} {F H : List Nat} (hp : plchk p = 0) (hK : C.K w1 w2 p vc vs vw (newK p) kb F) (hM : C.K w2 w3 p vc vs vw (newK p) mb H) : KK C w1 w3 p vc vs vw (newK p) (newK p) kb mb F H := by
  have hb1 := C.since hK
  have hb2 := C.since hM
  refine ⟨C.frame hK (KTouch.of (M := []) hb2) (by simp), C.lower hb1 hM, fun g hg hm => ?_, new_ok hp, new_ok hp⟩
  have := (C.ge hK g hg).2
  have := (C.ge hM g hm).1
  omega
theorem kk_poke {G : World → Prop} {C : KerC G} (CP : KerPoke C) {w1 W : World} {p : PD} {vc vs vw : Value} {k m : KD} {kb mb : Nat} {F H : List Nat} (hp : plchk p = 0) (r c n : Int) (h : KK C w1 W p vc vs vw k m kb mb F H) :
    Calls Tryd.prog 20 #[.pointer (some ⟨mb, 0, none⟩), .int .i64 r, .int .i64 c, .int .i64 n] W fun e w' => e = .returned (wErr (pokeN m r c n)) ∧ ∃ H', KK C w1 w' p vc vs vw k (pokeK m r c n) kb mb F H' ∧ KTouch H W w' ∧ ∀ g ∈ F ++ H', g ∈ F ++ H ∨ W.heap.size ≤ g := by
  refine (CP r c n h.M h.ok' hp).mono ?_
  rintro e w' ⟨rfl, H', hM', tk, hH'⟩
  refine ⟨rfl, H', ⟨C.frame h.K tk (fun x hx => ⟨fun hm => h.ap x hm hx, (C.ge h.M x hx).1⟩), hM', fun g hg hm => ?_, h.ok, poke_ok h.ok' r c n⟩, tk, fun g hg => ?_⟩
  · rcases hH' g hm with h1 | h1
    · exact h.ap g hg h1
    · have := (C.ge h.K g hg).2
      omega
  · rcases List.mem_append.1 hg with h1 | h1
    · exact Or.inl (List.mem_append.2 (Or.inl h1))
    · rcases hH' g h1 with h2 | h2
      · exact Or.inl (List.mem_append.2 (Or.inr h2))
      · exact Or.inr h2
/-- The poked one: another room is seen the same. -/
theorem poke_other {p : PD} {o : Int} {c n : Int} {r : Nat} (hr : o ≠ (r : Int)) (ho : pokeB (newK p) o c n = false) : (pokeK (newK p) o c n).rooms[r]? = (newK p).rooms[r]? ∧ (pokeK (newK p) o c n).lines = (newK p).lines ∧ (pokeK (newK p) o c n).time = (newK p).time := by
  obtain ⟨h0, h1, _⟩ := pokeB_false ho
  unfold pokeK
  rw [ho, if_neg (by decide)]
  refine ⟨?_, rfl, rfl⟩
  show ((newK p).rooms.set o.toNat _)[r]? = _
  rw [List.getElem?_set_ne (by omega)]
end Go.Proofs.YtlegpedmfpbaiadDoor
namespace Go.Proofs.YtlegpedmfpbaiadDoor
open Go.RowKit

theorem sees_takeG (ls : List LnD) (r : Int) (n : Nat) (l : LnD) (h : ls[n]? = some l) : (((ls.take (n + 1)).filter (atR r)).map fun l => (l.xs, l.ls)) = (((ls.take n).filter (atR r)).map fun l => (l.xs, l.ls)) ++ (if atR r l = true then [(l.xs, l.ls)] else []) := by
  rw [List.take_add_one, h, Option.toList_some, List.filter_append, List.map_append]
  cases hb : atR r l <;> simp [hb]
/-- What is seen of the first wires. -/
def seesN (k : KD) (r : Int) (n : Nat) : List (List Int × Int) := ((k.lines.take n).filter (atR r)).map fun l => (l.xs, l.ls)
theorem seesN_len (k : KD) (r : Int) (n : Nat) : (seesN k r n).length ≤ n := by
  unfold seesN
  rw [List.length_map]
  exact Nat.le_trans (List.length_filter_le _ _) (by rw [List.length_take]; omega)
/-- A row of what wires hold, all of it laid since. -/
def HdF (B : Nat) (w : World) (v : Value) (xs : List (List Int × Int)) : Prop := ∃ l, HdR B w v l xs ∧ ∀ x ∈ l, ∀ g, x.1.ownBlock = some g → B ≤ g
/-- What is written lies ahead of it. -/
theorem HdF.touch {B : Nat} {W W' : World} {v : Value} {xs : List (List Int × Int)} (h : HdF B W v xs) {M : List Nat} (ht : KTouch M W W') (hM : ∀ m ∈ M, m < B) : HdF B W' v xs := by
  obtain ⟨l, h, hf⟩ := h
  refine ⟨l, ⟨own_block h.own (fun g hg => ht.block g (h.own.lt g hg).2 (fun hm => ?_)), h.len, fun i x y hx hy => ?_, fun x hx g hg => ?_⟩, hf⟩
  · have := hM g hm
    have := (h.own.lt g hg).1
    omega
  · obtain ⟨h1, h2⟩ := h.rd i x y hx hy
    refine ⟨h1.block (fun g hg he => ht.block g hg (fun hm => ?_)) ht.size, h2⟩
    have := hM g hm
    have := hf x (List.mem_of_getElem? hx) g he
    omega
  · obtain ⟨h2, h3⟩ := h.ap x hx g hg
    exact ⟨Nat.lt_of_lt_of_le h2 ht.size, h3⟩
set_option maxRecDepth 100000 in
set_option maxHeartbeats 8000000 in
theorem saround_any {G : World → Prop} (C : KerC G) (CW : KerWire C) {w0 W : World} {p : PD} {vc vs vw : Value} {k : KD} {kb : Nat} {F : List Nat} (iw : Value) (r : Int) (h : C.K w0 W p vc vs vw k kb F) (hk : KOk p k) (hp : plchk p = 0) (hW : Wrs W iw p.wires) :
    Calls Tryd.prog 39 #[.pointer (some ⟨kb, 0, none⟩), iw, .int .i64 r] W fun e w' => ∃ ao m cap, e = .returned (.tuple #[.slice ao m cap, .nilIface]) ∧ HdF W.heap.size w' (.slice ao m cap) (seesK k r) ∧ Below W.heap.size W w' := by
  obtain ⟨jj, hj, hy0, hy1, hy2⟩ := info_parts infoHd
  obtain ⟨wa, wcap, rfl⟩ := hW.form
  have H : Hid (∀ wr, Below W.heap.size W wr → C.K w0 wr p vc vs vw k kb F) := fun wr hb => C.frame h (KTouch.of (M := []) hb) (by simp)
  have HW : Hid (Wrs W (.slice wa p.wires.length wcap) p.wires) := hW
  have hw12 : p.wires.length ≤ 12 := (wschk_ok (plchk_zero hp).2.2.2.1).1
  have hll := hk.ll
  clear h hW
  go_enter Tryd.func39, Tryd.ntmps39
  go_wp2
  go_loopw [8, 15] (fun v i wr => ∃ (n : Nat) (l : List (Value × Int)), n ≤ p.wires.length ∧ i = .int .i64 n ∧ HdR W.heap.size wr v l (seesN k r n) ∧ (∀ x ∈ l, ∀ g, x.1.ownBlock = some g → W.heap.size ≤ g) ∧ Below W.heap.size W wr) (fun _ i _ => p.wires.length - (intOf i).toNat)
  case atStart => exact ⟨0, [], Nat.zero_le _, rfl, HdR.nil _ _, fun x hx => (by cases hx), Below.refl _ _⟩
  case round =>
    obtain ⟨n, l, hn, rfl, hrow, hfr0, hbw⟩ := hrel
    have HF0 : Hid (∀ x ∈ l, ∀ g, x.1.ownBlock = some g → W.heap.size ≤ g) := hfr0
    clear hfr0
    obtain ⟨vo, vn, vk, rfl⟩ := own_form hrow.own
    have hsw := hbw.size
    by_cases hnl : n < p.wires.length
    · have hni : (n : Int) < (p.wires.length : Int) := by omega
      obtain ⟨xb, xo, f, t, kd, d, rfl, hxlt, hx, c0, c1, c2, c3⟩ := HW.out.at hnl
      replace c0 := (hbw.cell (p := ⟨xb, _, none⟩) hxlt).trans c0
      replace c1 := (hbw.cell (p := ⟨xb, _, none⟩) hxlt).trans c1
      replace c2 := (hbw.cell (p := ⟨xb, _, none⟩) hxlt).trans c2
      replace c3 := (hbw.cell (p := ⟨xb, _, none⟩) hxlt).trans c3
      obtain ⟨ln, hl⟩ : ∃ ln, k.lines[n]? = some ln := ⟨_, List.getElem?_eq_getElem (by rw [hll]; exact hnl)⟩
      have hlw := (hk.lines n ln _ hl hx).w
      have HT := sees_takeG k.lines r n ln hl
      have hat : atR r ln = (decide (f = r) || decide (t = r)) := by
        unfold atR
        rw [hlw]
      rw [hat] at HT
      have HRw : Hid (HdR W.heap.size wr (.slice vo vn vk) l (seesN k r n)) := hrow
      have hx8 := World.new_ne wr ⟨xb, _, none⟩ c0
      by_cases hor : f = r ∨ (f ≠ r ∧ t = r)
      · have HX : Hid (seesN k r (n + 1) = seesN k r n ++ [(ln.xs, ln.ls)]) := by
          show _ = _
          unfold seesN
          rw [HT, if_pos]
          rcases hor with e | ⟨_, e⟩ <;> simp [e]
        have hl12 : l.length + 1 ≤ 12 := by
          have h1 := hrow.len
          have h2 := seesN_len k r n
          omega
        have hno : noLine k n = false := by
          unfold noLine
          rw [hll, Bool.or_eq_false_iff]
          exact ⟨decide_eq_false (by omega), decide_eq_false (by omega)⟩
        have hlk : lineK k n = ln := by
          unfold lineK
          rw [if_neg (by rw [hno]; decide), Int.toNat_natCast]
          simp [List.getD, hl]
        have HC : Hid (∀ WW, Below wr.heap.size wr WW → Calls Tryd.prog 15 #[.pointer (some ⟨kb, 0, none⟩), .int .i64 n] WW fun e w' => ∃ ao m cu, e = .returned (.tuple #[.agg #[.slice ao m cu, .int .i64 ln.ls], .nilIface]) ∧ Rd w' (.slice ao m cu) ln.xs ∧ (∀ g, (Value.slice ao m cu).ownBlock = some g → WW.heap.size ≤ g ∧ g < w'.heap.size) ∧ Below WW.heap.size WW w') := fun WW hb => by
          have := CW n (H.out WW (hbw.trans (hb.mono hsw))) hk hp
          rw [hlk, hno] at this
          refine this.mono ?_
          rintro e w' ⟨u, rfl, h1, h2, h3⟩
          have hf : ∃ ao m cu, u = .slice ao m cu := by
            rcases h1 with ⟨_, ao, cu, h4⟩ | ⟨g, off, cu, h4, _⟩
            · exact ⟨_, _, _, h4⟩
            · exact ⟨_, _, _, h4⟩
          obtain ⟨ao, m, cu, rfl⟩ := hf
          exact ⟨ao, m, cu, rfl, h1, h2, h3⟩
        clear HT hrow hat hl hx hlw hno hlk
        go_upto_region 5 with fail
        have hA : Below wr.heap.size wr (wr.alloc (.cells #[.int .i64 f, .int .i64 t, .int .i64 kd, .int .i64 d] 23)) := (Below.refl _ _).alloc (Nat.le_refl _) _
        go_cut [15, 29] from 15 to 43 (fun s15 s29 wx => s15 = .int .i64 n ∧ s29 = .bool false ∧ Below wr.heap.size wr wx)
        case first =>
          rcases hor with e | ⟨e1, e2⟩
          · have hq : (f != r) = false := by simp [e]
            go_wp2
            go_meet
            case rel => exact ⟨rfl, rfl, (Below.refl _ _).alloc (Nat.le_refl _) _⟩
          · have hq : (f != r) = true := by simpa using e1
            have hq2 : (t != r) = false := by simp [e2]
            go_wp2
            go_meet
            case rel => exact ⟨rfl, rfl, (Below.refl _ _).alloc (Nat.le_refl _) _⟩
        case rest =>
          clear hA hor c0 c1 c2 c3
          obtain ⟨rfl, rfl, hbc⟩ := hcut
          go_upto_region 9 with (go_at_call 15; refine (HC.out _ hbc).mono ?_; rintro e w2 ⟨ao, m, cu, rfl, hrd, hfr, b2⟩)
          have hB1 : Below wr.heap.size wr (w2.alloc (.cells #[.slice ao m cu, .int .i64 ln.ls] 58)) := (hbc.trans (b2.mono hbc.size)).alloc (Nat.le_trans hbc.size b2.size) _
          have hrow3 := HRw.out.all hB1
          have own3 := hrow3.own
          have hs2 := b2.size
          have hsc := hbc.size
          have HFin : Hid (∀ (v1 : Value) (w8 : World), w8.ownsRow W.heap.size 58 2 v1 (l.length + 1) (hdCells l ++ [.slice ao m cu, .int .i64 ln.ls]) → ((w2.alloc (.cells #[.slice ao m cu, .int .i64 ln.ls] 58)).alloc (.cells #[.slice ao m cu, .int .i64 ln.ls] 58)).grownBy w8 (Value.slice vo vn vk).ownBlock → (∀ g, v1.ownBlock = some g → (Value.slice vo vn vk).ownBlock = some g ∨ w2.heap.size + 2 ≤ g) → HdR W.heap.size w8 v1 (l ++ [(.slice ao m cu, ln.ls)]) (seesN k r (n + 1)) ∧ Below W.heap.size W w8) := fun v1 w8 o1 o2 o3 => by
            rw [HX.out]
            have hrd' : Rd (w2.alloc (.cells #[.slice ao m cu, .int .i64 ln.ls] 58)) (.slice ao m cu) ln.xs := hrd.all ((Below.refl _ _).alloc (Nat.le_refl _) _)
            refine ⟨hrow3.more (y := (ln.xs, ln.ls)) hrd' (fun g hg => ⟨?_, fun e => ?_⟩) o2 o1 (fun g hg => ?_), ?_⟩
            · have := (hfr g hg).2
              simp
              omega
            · have := (HRw.out.own.lt g e).2
              have := (hfr g hg).1
              omega
            · have := o3 g hg
              simpa using this
            · exact ((hbw.trans (hB1.mono hsw)).alloc (by simp; omega) _).grown o2 (by simp; omega) (fun j hj => (HRw.out.own.lt j hj).1)
          have HF1 : Hid (∀ x ∈ l ++ [(Value.slice ao m cu, ln.ls)], ∀ g, x.1.ownBlock = some g → W.heap.size ≤ g) := fun x hx g hg => by
            rcases List.mem_append.1 hx with h1 | h1
            · exact HF0.out x h1 g hg
            · rw [List.mem_singleton] at h1
              subst h1
              have := (hfr g hg).1
              omega
          clear hB1 hrow3 hrd hfr b2
          go_wp2_with (at_builtin; refine wpList_append_at _ rfl _ _ 55 rfl W.heap.size 58 jj _ 2 32 Tryd.underlying55 hj hy0 hy1 hy2 rfl (by decide) _ _ _ rfl (own3.alloc _) ⟨w2.heap.size + 1, 0, none⟩ 1 1 [.slice ao m cu, .int .i64 ln.ls] rfl rfl ?c1A ?c2A ?c3A ?c4A ?c5A ?_)
          case c1A => exact hd_new (by simp) _ _ _
          case c2A => intro u hu; simp at hu; rcases hu with rfl | rfl <;> rfl
          case c3A => unfold maxLen; omega
          case c4A => omega
          case c5A => simp; omega
          intro v1 w8 own8 hg8 hnw8
          have HQ := HFin.out v1 w8 own8 hg8 (fun g hg => by have := hnw8 g hg; simpa using this)
          obtain ⟨g8, cap8, rfl⟩ := own_succ own8
          have HQ1 : Hid (HdR W.heap.size w8 (.slice (some ⟨g8, 0, none⟩) (l.length + 1) cap8) (l ++ [(.slice ao m cu, ln.ls)]) (seesN k r (n + 1))) := HQ.1
          have HQ2 : Hid (Below W.heap.size W w8) := HQ.2
          clear own8 hg8 hnw8 own3 HQ HFin
          go_wp2
          go_roundw
          case rel => exact ⟨n + 1, _, by omega, by go_num, HQ1.out, HF1.out, HQ2.out⟩
          case measure => simp [intOf]; omega
      · have hf1 : f ≠ r := fun e => hor (Or.inl e)
        have ht1 : t ≠ r := fun e => hor (Or.inr ⟨hf1, e⟩)
        have HX : Hid (seesN k r (n + 1) = seesN k r n) := by
          show _ = _
          unfold seesN
          rw [HT, if_neg (by simp [hf1, ht1]), List.append_nil]
        have hq1 : (f != r) = true := by simpa using hf1
        have hq2 : (t != r) = true := by simpa using ht1
        clear HT hrow hat hl hx hlw hor
        go_wp2
        go_roundw
        case rel => exact ⟨n + 1, l, by omega, by go_num, by rw [HX.out]; exact HRw.out.all ((Below.refl _ _).alloc (Nat.le_refl _) _), HF0.out, hbw.alloc hsw _⟩
        case measure => simp [intOf]; omega
    · obtain rfl : n = p.wires.length := by omega
      have hq : decide ((p.wires.length : Int) < (p.wires.length : Int)) = false := decide_eq_false (by omega)
      have hq' : decide (p.wires.length < p.wires.length) = false := decide_eq_false (by omega)
      have HRw : Hid (HdF W.heap.size wr (.slice vo vn vk) (seesK k r)) := by
        refine ⟨l, ?_, HF0.out⟩
        have := hrow
        unfold seesN at this
        rw [← hll, List.take_length] at this
        exact this
      clear hrow
      go_wp2
      go_ret2
      exact ⟨_, _, _, rfl, HRw.out, hbw⟩
end Go.Proofs.YtlegpedmfpbaiadDoor
