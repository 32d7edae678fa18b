/-
  WVal, FlowBase, WireMath, PlanMath, KMath, PlanBase, PortL, KMath2, KTouchL, KTurnM, KTurnW, KerC, KCountM, KSet, POpen, SgtMath, StRow, GClone, StL, SgtCR, Law, SgtRunG: joined into one text.
-/
import Derived.Test.YtlegpedmfpbaiaeDoorJa1
import Derived.Deep.MidRow
import Derived.Lib.SmallJoins
import Derived.Deep.Slices
import Derived.Deep.RegionLaw
import Derived.Deep.RegionWith
import Derived.Lib.SliceRun
import Derived.BigQuiet
import Derived.Test.YtlegpedmfpbaiaeDoorRows
import Derived.ProofKit
import Derived.LaidMore
import Derived.OpenShut
import Derived.Carry
import Derived.Stop.Joined
import Derived.Deep.CutRange
namespace Go.Proofs.YtlegpedmfpbaiaeDoor
open Go.RowKit

/-- A wire as a value. -/
def wV (f t k d : Int) : Value := .agg #[.int .i64 f, .int .i64 t, .int .i64 k, .int .i64 d]
end Go.Proofs.YtlegpedmfpbaiaeDoor
namespace Go.Proofs.YtlegpedmfpbaiaeDoor
open Go.RowKit

/-- The cells of wires. -/
def WrC (w : World) (b off : Nat) (l : List W4) : Prop := ∀ (i : Nat) x, l[i]? = some x → w.cell? ⟨b, off + i * 4, none⟩ = some (.int .i64 x.1) ∧ w.cell? ⟨b, off + i * 4 + 1, none⟩ = some (.int .i64 x.2.1) ∧ w.cell? ⟨b, off + i * 4 + 2, none⟩ = some (.int .i64 x.2.2.1) ∧ w.cell? ⟨b, off + i * 4 + 3, none⟩ = some (.int .i64 x.2.2.2)
/-- Wires that can be read. -/
def Wrs (w : World) (v : Value) (l : List W4) : Prop :=
  (l = [] ∧ ∃ ao cap, v = .slice ao 0 cap) ∨ ∃ b off cap, v = .slice (some ⟨b, off, none⟩) l.length cap ∧ l.length ≤ cap ∧ b < w.heap.size ∧ WrC w b off l
theorem WrC.below {w w' : World} {b off B : Nat} {l : List W4} (h : WrC w b off l) (hb : Below B w w') (hlt : b < B) : WrC w' b off l := fun i o ho => by
  obtain ⟨h0, h1, h2, h3⟩ := h i o ho
  exact ⟨(hb.cell (p := ⟨b, _, none⟩) hlt).trans h0, (hb.cell (p := ⟨b, _, none⟩) hlt).trans h1, (hb.cell (p := ⟨b, _, none⟩) hlt).trans h2, (hb.cell (p := ⟨b, _, none⟩) hlt).trans h3⟩
theorem Wrs.all {w w' : World} {v : Value} {l : List W4} (h : Wrs w v l) (hb : Below w.heap.size w w') : Wrs w' v l := by
  rcases h with h | ⟨b, off, cap, rfl, hcap, hlt, hc⟩
  · exact Or.inl h
  · exact Or.inr ⟨b, off, cap, rfl, hcap, Nat.lt_of_lt_of_le hlt hb.size, hc.below hb hlt⟩
theorem Wrs.form {w : World} {v : Value} {l : List W4} (h : Wrs w v l) : ∃ ao cap, v = .slice ao l.length cap := by
  rcases h with ⟨rfl, ao, cap, rfl⟩ | ⟨b, off, cap, rfl, _⟩
  · exact ⟨ao, cap, rfl⟩
  · exact ⟨_, cap, rfl⟩
theorem Wrs.at {w : World} {ao : Option Addr} {cap : Nat} {l : List W4} (h : Wrs w (.slice ao l.length cap) l) {i : Nat} (hi : i < l.length) : ∃ b off f t k d, ao = some ⟨b, off, none⟩ ∧ b < w.heap.size ∧ l[i]? = some (f, t, k, d) ∧ w.cell? ⟨b, off + i * 4, none⟩ = some (.int .i64 f) ∧ w.cell? ⟨b, off + i * 4 + 1, none⟩ = some (.int .i64 t) ∧ w.cell? ⟨b, off + i * 4 + 2, none⟩ = some (.int .i64 k) ∧ w.cell? ⟨b, off + i * 4 + 3, none⟩ = some (.int .i64 d) := by
  rcases h with ⟨rfl, _⟩ | ⟨b, off, cap', e, _, hlt, hc⟩
  · simp at hi
  · injection e with e1
    obtain ⟨⟨f, t, k, d⟩, hx'⟩ : ∃ x : W4, l[i]? = some x := ⟨l[i], List.getElem?_eq_getElem hi⟩
    obtain ⟨h0, h1, h2, h3⟩ := hc i _ hx'
    exact ⟨b, off, f, t, k, d, e1, hlt, hx', h0, h1, h2, h3⟩
end Go.Proofs.YtlegpedmfpbaiaeDoor
namespace Go.Proofs.YtlegpedmfpbaiaeDoor

/-- A number put into a list that rises, once; 'done': it is there. -/
def putGo (n : Int) : Bool → List Int → List Int
  | done, [] => if done then [] else [n]
  | done, x :: xs => if done then x :: putGo n true xs else if x = n then x :: putGo n true xs else if n < x then n :: x :: putGo n true xs else x :: putGo n false xs
theorem putGo_true (n : Int) : ∀ l, putGo n true l = l
  | [] => rfl
  | x :: xs => by simp [putGo, putGo_true n xs]
theorem putGo_nil (n : Int) : putGo n false [] = [n] := rfl
theorem putGo_eq {n x : Int} (h : x = n) (xs : List Int) : putGo n false (x :: xs) = x :: xs := by simp [putGo, h, putGo_true]
theorem putGo_lt {n x : Int} (h : n < x) (xs : List Int) : putGo n false (x :: xs) = n :: x :: xs := by
  have : x ≠ n := by omega
  simp [putGo, this, h, putGo_true]
theorem putGo_gt {n x : Int} (h : x < n) (xs : List Int) : putGo n false (x :: xs) = x :: putGo n false xs := by
  have h1 : x ≠ n := by omega
  have h2 : ¬ n < x := by omega
  simp [putGo, h1, h2]
theorem putGo_len (n : Int) : ∀ d l, (putGo n d l).length ≤ l.length + 1
  | d, [] => by unfold putGo; split <;> simp
  | d, x :: xs => by
    have h1 := putGo_len n true xs
    have h2 := putGo_len n false xs
    have h3 := congrArg List.length (putGo_true n xs)
    unfold putGo
    repeat' split
    all_goals simp only [List.length_cons]; omega
/-- The numbers from s on, k many, of which p says yes. -/
def pickN (p : Nat → Bool) (s k : Nat) : List Int := ((List.range' s k).filter p).map Int.ofNat
theorem pickN_zero (p : Nat → Bool) (s : Nat) : pickN p s 0 = [] := rfl
theorem pickN_succ (p : Nat → Bool) (s k : Nat) : pickN p s (k + 1) = if p s then (s : Int) :: pickN p (s + 1) k else pickN p (s + 1) k := by
  unfold pickN
  rw [List.range'_succ, List.filter_cons]
  split <;> simp
theorem pickN_congr {p q : Nat → Bool} {s k : Nat} (h : ∀ i, s ≤ i → i < s + k → p i = q i) : pickN p s k = pickN q s k := by
  unfold pickN
  congr 1
  apply List.filter_congr
  intro x hx
  rw [List.mem_range'_1] at hx
  exact h x hx.1 (by omega)
theorem pickN_gt (p : Nat → Bool) : ∀ (k s : Nat) (n : Int), n < s → putGo n false (pickN p s k) = n :: pickN p s k
  | 0, s, n, _ => rfl
  | k + 1, s, n, h => by
    rw [pickN_succ]
    split
    · exact putGo_lt h _
    · exact pickN_gt p k (s + 1) n (by omega)
theorem pickN_put (p : Nat → Bool) (m : Nat) : ∀ (k s : Nat), s ≤ m → m < s + k → putGo m false (pickN p s k) = pickN (fun i => p i || i == m) s k
  | 0, s, h1, h2 => by omega
  | k + 1, s, h1, h2 => by
    rw [pickN_succ, pickN_succ]
    by_cases hs : s = m
    · subst hs
      have hc : pickN (fun i => p i || i == s) (s + 1) k = pickN p (s + 1) k := pickN_congr fun i hi _ => by
        have : (i == s) = false := by simp; omega
        simp [this]
      simp only [beq_self_eq_true, Bool.or_true, if_true]
      rw [hc]
      split
      · exact putGo_eq rfl _
      · exact pickN_gt p k (s + 1) s (by omega)
    · have hsm : (s == m) = false := by simpa using hs
      simp only [hsm, Bool.or_false]
      have ih := pickN_put p m k (s + 1) (by omega) (by omega)
      split
      · rw [putGo_gt (by omega), ih]
      · exact ih
/-- An op of that What on that wire. -/
def onW (what : Int) (i : Nat) (o : O3) : Bool := decide (o.1 = what) && decide (o.2.2 = (i : Int))
def wiresB (what : Int) (l : List O3) : List Int := pickN (fun i => l.any (onW what i)) 0 12
def portStep (what : Int) (acc : List Int) (o : O3) : List Int := if o.1 = what then putGo o.2.2 false acc else acc
theorem wires_nil (what : Int) : wiresB what [] = [] := rfl
theorem wires_snoc (what : Int) (l : List O3) (o : O3) (h : o.1 = what → 0 ≤ o.2.2 ∧ o.2.2 < 12) : wiresB what (l ++ [o]) = portStep what (wiresB what l) o := by
  unfold portStep
  by_cases hw : o.1 = what
  · obtain ⟨h1, h2⟩ := h hw
    rw [if_pos hw]
    obtain ⟨m, hm⟩ : ∃ m : Nat, o.2.2 = m := ⟨o.2.2.toNat, by omega⟩
    rw [hm]
    unfold wiresB
    rw [pickN_put _ m 12 0 (by omega) (by omega)]
    apply pickN_congr
    intro i _ _
    have e : onW what i o = (i == m) := by
      rw [Bool.eq_iff_iff]
      simp [onW, hw, hm]
      omega
    rw [List.any_append]
    simp [e]
  · rw [if_neg hw]
    unfold wiresB
    apply pickN_congr
    intro i _ _
    have e : onW what i o = false := by simp [onW, hw]
    rw [List.any_append]
    simp [e]
theorem wires_len (what : Int) (l : List O3) : (wiresB what l).length ≤ 12 := by
  unfold wiresB pickN
  rw [List.length_map]
  have := List.length_filter_le (fun i => l.any (onW what i)) (List.range' 0 12)
  simpa using this
/-- The first i wires of them. -/
theorem pick_snoc (p : Nat → Bool) (k : Nat) : pickN p 0 (k + 1) = if p k then pickN p 0 k ++ [(k : Int)] else pickN p 0 k := by
  unfold pickN
  rw [List.range'_1_concat, List.filter_append, List.map_append]
  simp only [Nat.zero_add, List.filter_cons, List.filter_nil]
  split <;> simp
theorem pick_len (p : Nat → Bool) (k : Nat) : (pickN p 0 k).length ≤ k := by
  unfold pickN
  rw [List.length_map]
  have := List.length_filter_le p (List.range' 0 k)
  simpa using this
end Go.Proofs.YtlegpedmfpbaiaeDoor
namespace Go.Proofs.YtlegpedmfpbaiaeDoor

/-- A plan: the code of each room, ticks, spans, wires. -/
structure PD where
  code : List (List O3)
  ticks : Int
  spans : List S3
  wires : List W4
def PD.none : PD := ⟨[], 0, [], []⟩
/-- The fault of the first code that is wrong. -/
def codesE : List (List O3) → Int
  | [] => 0
  | c :: r => if (chk c).2 = 0 then codesE r else (chk c).2
/-- Is a wire none of a room's own? -/
def portB (at' : W4 → Int) (ws : List W4) (i : Nat) (k : Int) : Bool := match ws[k.toNat]? with
  | none => true
  | some x => !decide (at' x = (i : Int))
def portsB (ws : List W4) (i : Nat) (c : List O3) : Bool := (wiresB 8 c).any (portB (·.1) ws i) || (wiresB 9 c).any (portB (·.2.1) ws i)
def portsAny (ws : List W4) : Nat → List (List O3) → Bool
  | _, [] => false
  | i, c :: r => portsB ws i c || portsAny ws (i + 1) r
/-- Does a span name a room that has no code? -/
def spanOut (n : Nat) (s : S3) : Bool := decide ((n : Int) ≤ s.2.2)
def wireOut (n : Nat) (x : W4) : Bool := decide ((n : Int) ≤ x.1) || decide ((n : Int) ≤ x.2.1)
/-- The fault of a plan. -/
def plchk (p : PD) : Int :=
  if 5 < p.code.length then 4 else if p.code.length = 0 then 5 else
  if (fchk p.ticks p.spans).2 ≠ 0 then (fchk p.ticks p.spans).2 else
  if (wschk p.wires).2 ≠ 0 then (wschk p.wires).2 else
  if p.spans.any (spanOut p.code.length) = true then 1 else
  if p.wires.any (wireOut p.code.length) = true then 1 else
  if codesE p.code ≠ 0 then codesE p.code else
  if portsAny p.wires 0 p.code = true then 3 else 0
theorem plchk_long {p : PD} (h : 5 < p.code.length) : plchk p = 4 := by rw [plchk, if_pos h]
theorem plchk_none {p : PD} (h : p.code.length = 0) : plchk p = 5 := by rw [plchk, if_neg (by omega), if_pos h]
theorem plchk_frame {p : PD} (h1 : p.code.length ≤ 5) (h2 : p.code.length ≠ 0) (h3 : (fchk p.ticks p.spans).2 ≠ 0) : plchk p = (fchk p.ticks p.spans).2 := by rw [plchk, if_neg (by omega), if_neg h2, if_pos h3]
theorem plchk_wires {p : PD} (h1 : p.code.length ≤ 5) (h2 : p.code.length ≠ 0) (h3 : (fchk p.ticks p.spans).2 = 0) (h4 : (wschk p.wires).2 ≠ 0) : plchk p = (wschk p.wires).2 := by
  rw [plchk, if_neg (by omega), if_neg h2, if_neg (by simpa using h3), if_pos h4]
theorem plchk_span {p : PD} (h1 : p.code.length ≤ 5) (h2 : p.code.length ≠ 0) (h3 : (fchk p.ticks p.spans).2 = 0) (h4 : (wschk p.wires).2 = 0) (h5 : p.spans.any (spanOut p.code.length) = true) : plchk p = 1 := by
  rw [plchk, if_neg (by omega), if_neg h2, if_neg (by simpa using h3), if_neg (by simpa using h4), if_pos h5]
theorem plchk_wire {p : PD} (h1 : p.code.length ≤ 5) (h2 : p.code.length ≠ 0) (h3 : (fchk p.ticks p.spans).2 = 0) (h4 : (wschk p.wires).2 = 0) (h5 : p.spans.any (spanOut p.code.length) = false) (h6 : p.wires.any (wireOut p.code.length) = true) : plchk p = 1 := by
  rw [plchk, if_neg (by omega), if_neg h2, if_neg (by simpa using h3), if_neg (by simpa using h4), if_neg (by rw [h5]; decide), if_pos h6]
theorem plchk_tail {p : PD} (h1 : p.code.length ≤ 5) (h2 : p.code.length ≠ 0) (h3 : (fchk p.ticks p.spans).2 = 0) (h4 : (wschk p.wires).2 = 0) (h5 : p.spans.any (spanOut p.code.length) = false) (h6 : p.wires.any (wireOut p.code.length) = false) :
    plchk p = if codesE p.code ≠ 0 then codesE p.code else if portsAny p.wires 0 p.code = true then 3 else 0 := by
  rw [plchk, if_neg (by omega), if_neg h2, if_neg (by simpa using h3), if_neg (by simpa using h4), if_neg (by rw [h5]; decide), if_neg (by rw [h6]; decide)]
theorem plchk_zero {p : PD} (h : plchk p = 0) : p.code.length ≤ 5 ∧ p.code.length ≠ 0 ∧ (fchk p.ticks p.spans).2 = 0 ∧ (wschk p.wires).2 = 0 ∧ p.spans.any (spanOut p.code.length) = false ∧ p.wires.any (wireOut p.code.length) = false ∧ codesE p.code = 0 ∧ portsAny p.wires 0 p.code = false := by
  unfold plchk at h
  split at h
  · simp at h
  · rename_i h1
    split at h
    · simp at h
    · rename_i h2
      split at h
      · contradiction
      · rename_i h3
        split at h
        · contradiction
        · rename_i h4
          split at h
          · simp at h
          · rename_i h5
            split at h
            · simp at h
            · rename_i h6
              split at h
              · contradiction
              · rename_i h7
                split at h
                · simp at h
                · rename_i h8
                  exact ⟨by omega, h2, by simpa using h3, by simpa using h4, by simpa using h5, by simpa using h6, by simpa using h7, by simpa using h8⟩
theorem codesE_zero : ∀ {l : List (List O3)}, codesE l = 0 → ∀ c ∈ l, (chk c).2 = 0
  | [], _, c, hc => by simp at hc
  | x :: l, h, c, hc => by
    rw [codesE] at h
    by_cases hx : (chk x).2 = 0
    · rw [if_pos hx] at h
      rcases List.mem_cons.1 hc with rfl | hc
      · exact hx
      · exact codesE_zero h c hc
    · rw [if_neg hx] at h
      exact absurd h hx
theorem codesE_skip : ∀ (l : List (List O3)) (k : Nat), (∀ (j : Nat) c, j < k → l[j]? = some c → (chk c).2 = 0) → codesE l = codesE (l.drop k)
  | l, 0, _ => by simp
  | [], k + 1, _ => by simp
  | x :: l, k + 1, h => by
    have hx : (chk x).2 = 0 := h 0 x (by omega) rfl
    rw [codesE, if_pos hx, List.drop_succ_cons]
    exact codesE_skip l k (fun j c hj hc => h (j + 1) c (by omega) (by simpa using hc))
theorem codesE_hit {l : List (List O3)} {k : Nat} {c : List O3} (h : ∀ (j : Nat) c, j < k → l[j]? = some c → (chk c).2 = 0) (hc : l[k]? = some c) (hb : (chk c).2 ≠ 0) : codesE l = (chk c).2 := by
  rw [codesE_skip l k h]
  obtain ⟨hk, rfl⟩ := List.getElem?_eq_some_iff.1 hc
  rw [List.drop_eq_getElem_cons hk, codesE, if_neg hb]
theorem codesE_ok {l : List (List O3)} (h : ∀ (j : Nat) c, j < l.length → l[j]? = some c → (chk c).2 = 0) : codesE l = 0 := by
  rw [codesE_skip l l.length h]
  simp [codesE]
theorem portsAny_skip (ws : List W4) : ∀ (l : List (List O3)) (k i : Nat), (∀ (j : Nat) c, j < k → l[j]? = some c → portsB ws (i + j) c = false) → portsAny ws i l = portsAny ws (i + k) (l.drop k)
  | l, 0, i, _ => by simp
  | [], k + 1, i, _ => by simp [portsAny]
  | x :: l, k + 1, i, h => by
    have hx : portsB ws i x = false := h 0 x (by omega) rfl
    rw [portsAny, hx, Bool.false_or, List.drop_succ_cons, show i + (k + 1) = i + 1 + k by omega]
    exact portsAny_skip ws l k (i + 1) (fun j c hj hc => by rw [show i + 1 + j = i + (j + 1) by omega]; exact h (j + 1) c (by omega) (by simpa using hc))
theorem portsAny_hit {ws : List W4} {l : List (List O3)} {k : Nat} {c : List O3} (h : ∀ (j : Nat) c, j < k → l[j]? = some c → portsB ws j c = false) (hc : l[k]? = some c) (hb : portsB ws k c = true) : portsAny ws 0 l = true := by
  rw [portsAny_skip ws l k 0 (fun j c hj hx => by rw [Nat.zero_add]; exact h j c hj hx), Nat.zero_add]
  obtain ⟨hk, rfl⟩ := List.getElem?_eq_some_iff.1 hc
  rw [List.drop_eq_getElem_cons hk, portsAny, hb, Bool.true_or]
theorem portsAny_ok {ws : List W4} {l : List (List O3)} (h : ∀ (j : Nat) c, j < l.length → l[j]? = some c → portsB ws j c = false) : portsAny ws 0 l = false := by
  rw [portsAny_skip ws l l.length 0 (fun j c hj hx => by rw [Nat.zero_add]; exact h j c hj hx)]
  simp [portsAny]

/-! Lines. -/
def wFrame : List UInt8 := [102, 114, 97, 109, 101]
def wSpan : List UInt8 := [115, 112, 97, 110]
def wWire : List UInt8 := [119, 105, 114, 101]
def wRoom : List UInt8 := [114, 111, 111, 109]
def frameL (n : Int) : List UInt8 := wFrame ++ tail [n]
def spanL (s : S3) : List UInt8 := wSpan ++ tail [s.1, s.2.1, s.2.2]
def wireL (x : W4) : List UInt8 := wWire ++ tail [x.1, x.2.1, x.2.2.1, x.2.2.2]
/-- An op's line, without its end. -/
def opL (o : O3) : List UInt8 := nameB o.1 ++ tail (numsB o)
def roomL (c : List O3) : List (List UInt8) := wRoom :: c.map opL
/-- The lines of a plan, without their ends. -/
def planL (p : PD) : List (List UInt8) := frameL p.ticks :: (p.spans.map spanL ++ (p.wires.map wireL ++ p.code.flatMap roomL))
/-- Lines with their ends, as a text. -/
def endL (ls : List (List UInt8)) : List UInt8 := ls.flatMap (· ++ [10])
def planB (p : PD) : List UInt8 := endL (planL p)

/-! A text as a plan. -/
def spanOf (u : List UInt8) : Option S3 := match bodyB u with
  | some (p, [a, b, c]) => if p = wSpan then some (a, b, c) else none
  | _ => none
def wireOf (u : List UInt8) : Option W4 := match bodyB u with
  | some (p, [a, b, c, d]) => if p = wWire then some (a, b, c, d) else none
  | _ => none
def frameOf (u : List UInt8) : Option Int := match bodyB u with
  | some (p, [a]) => if p = wFrame then some a else none
  | _ => none
def takeF {α : Type} (f : List UInt8 → Option α) : List (List UInt8) → List α × List (List UInt8)
  | [] => ([], [])
  | u :: r => match f u with
    | none => ([], u :: r)
    | some s => (s :: (takeF f r).1, (takeF f r).2)
/-- One op more, of the last room. -/
def onto (acc : List (List O3)) (o : O3) : Option (List (List O3)) := match acc.getLast? with
  | none => none
  | some c => some (acc.dropLast ++ [c ++ [o]])
def roomsOf : List (List O3) → List (List UInt8) → Option (List (List O3))
  | acc, [] => some acc
  | acc, u :: r => if u = wRoom then roomsOf (acc ++ [[]]) r else match opRead (u ++ [10]) with
    | none => none
    | some o => match onto acc o with
      | none => none
      | some a => roomsOf a r
/-- Lines, without their ends, as a plan. -/
def planOf : List (List UInt8) → Option PD
  | [] => none
  | u :: r => match frameOf u with
    | none => none
    | some n => match roomsOf [] (takeF wireOf (takeF spanOf r).2).2 with
      | none => none
      | some cs => some ⟨cs, n, (takeF spanOf r).1, (takeF wireOf (takeF spanOf r).2).1⟩
/-- What is read, and the fault. -/
def planR (o : Option PD) : PD × Int := match o with
  | none => (PD.none, 2)
  | some p => if plchk p = 0 then (p, 0) else (PD.none, plchk p)
theorem planR_none : planR none = (PD.none, 2) := rfl
theorem planR_ok {p : PD} (h : plchk p = 0) : planR (some p) = (p, 0) := by
  show (if plchk p = 0 then (p, (0 : Int)) else (PD.none, plchk p)) = _
  rw [if_pos h]
theorem planR_bad {p : PD} (h : plchk p ≠ 0) : planR (some p) = (PD.none, plchk p) := by
  show (if plchk p = 0 then (p, (0 : Int)) else (PD.none, plchk p)) = _
  rw [if_neg h]
/-- A text as a plan, and the fault. -/
def planP (t : List UInt8) : PD × Int := if (cutB 10 t).getLast? = some [] then planR (planOf (cutB 10 t).dropLast) else (PD.none, 2)
theorem planP_open {t : List UInt8} {ps : List (List UInt8)} {q : List UInt8} (h : cutB 10 t = ps ++ [q]) (hq : q ≠ []) : planP t = (PD.none, 2) := by
  rw [planP, h, if_neg (by simpa using hq)]
theorem planP_shut {t : List UInt8} {ps : List (List UInt8)} (h : cutB 10 t = ps ++ [[]]) : planP t = planR (planOf ps) := by
  rw [planP, h, if_pos (by simp), List.dropLast_concat]
theorem takeF_yes {α : Type} {f : List UInt8 → Option α} {u : List UInt8} {s : α} (h : f u = some s) (r : List (List UInt8)) : takeF f (u :: r) = (s :: (takeF f r).1, (takeF f r).2) := by rw [takeF, h]
theorem takeF_no {α : Type} {f : List UInt8 → Option α} {u : List UInt8} (h : f u = none) (r : List (List UInt8)) : takeF f (u :: r) = ([], u :: r) := by rw [takeF, h]
end Go.Proofs.YtlegpedmfpbaiaeDoor
namespace Go.Proofs.YtlegpedmfpbaiaeDoor

/-- A line: its wire, what is there, what was lost. -/
structure LnD where
  w : W4
  xs : List Int
  ls : Int
def LnD.none : LnD := ⟨(0, 0, 0, 0), [], 0⟩
/-- What is there to be taken. -/
def headL (l : LnD) : Int × Bool := match l.xs with
  | [] => (0, false)
  | x :: _ => (x, true)
/-- Behind a take. -/
def restL (l : LnD) : LnD := match l.xs with
  | [] => l
  | _ :: ys => if l.w.2.2.1 = 2 then ⟨l.w, ys, l.ls⟩ else l
/-- Is what is sent there? -/
def fitL (l : LnD) : Bool := decide (l.w.2.2.1 = 1) || decide ((l.xs.length : Int) < l.w.2.2.2)
/-- Behind a send. -/
def putL (l : LnD) (n : Int) : LnD := if l.w.2.2.1 = 1 then ⟨l.w, [n], l.ls⟩ else if (l.xs.length : Int) < l.w.2.2.2 then ⟨l.w, l.xs ++ [n], l.ls⟩ else ⟨l.w, l.xs, l.ls + 1⟩
/-- A kernel: its rooms, its lines, its time. -/
structure KD where
  rooms : List St
  lines : List LnD
  time : Int
def stNew : St := ⟨0, fun _ => 0, false⟩
def newK (p : PD) : KD := ⟨p.code.map fun _ => stNew, p.wires.map fun x => ⟨x, [], 0⟩, 0⟩
def opAt (c : List O3) (s : St) : O3 := c.getD s.p.toNat (0, 0, 0)
def takesB (o : O3) (s : St) : Bool := !s.f && decide (o.1 = 9)
def lineAt (k : KD) (o : O3) : LnD := k.lines.getD o.2.2.toNat LnD.none
def gotK (k : KD) (o : O3) (s : St) : Int × Bool := if takesB o s = true then headL (lineAt k o) else (0, false)
/-- The lines behind what is taken. -/
def linesT (k : KD) (o : O3) (s : St) : List LnD := if takesB o s = true then k.lines.set o.2.2.toNat (restL (lineAt k o)) else k.lines
/-- .. and behind what is sent. -/
def linesS (ls : List LnD) (o : O3) (sent : Int) : List LnD := if 0 ≤ sent then ls.set o.2.2.toNat (putL (ls.getD o.2.2.toNat LnD.none) sent) else ls
/-- What came of it. -/
def cameK (ls : List LnD) (o : O3) (sent what : Int) : Int := if 0 ≤ sent ∧ fitL (ls.getD o.2.2.toNat LnD.none) = false then 3 else what
/-- A tick that a room has. -/
def turnK (p : PD) (k : KD) (r : Nat) : KD × Int × Int :=
  let c := p.code.getD r []
  let s := k.rooms.getD r stNew
  let o := opAt c s
  let g := gotK k o s
  (⟨k.rooms.set r (stepF o s c.length g.1 g.2), linesS (linesT k o s) o (sendF o s), k.time + 1⟩, s.p, cameK (linesT k o s) o (sendF o s) (whatF o s g.2))
/-- A tick; and what is told of it. -/
def tickK (p : PD) (sp : List S3) (k : KD) : KD × Int × Int × Int × Int :=
  let r := hold sp (k.time % p.ticks)
  if r < 0 then (⟨k.rooms, k.lines, k.time + 1⟩, k.time, r, 0, 0) else ((turnK p k r.toNat).1, k.time, r, (turnK p k r.toNat).2.1, (turnK p k r.toNat).2.2)

/-- A line that is right. -/
structure LnOk (l : LnD) (x : W4) : Prop where
  w : l.w = x
  xs : ∀ n ∈ l.xs, 0 ≤ n ∧ n ≤ 999
  one : x.2.2.1 = 1 → l.xs.length ≤ 1
  deep : x.2.2.1 = 2 → (l.xs.length : Int) ≤ x.2.2.2
  ls : 0 ≤ l.ls
/-- A kernel that is right. -/
structure KOk (p : PD) (k : KD) : Prop where
  rl : k.rooms.length = p.code.length
  ll : k.lines.length = p.wires.length
  rooms : ∀ (i : Nat) c s, p.code[i]? = some c → k.rooms[i]? = some s → stOk s c.length = true
  lines : ∀ (i : Nat) l x, k.lines[i]? = some l → p.wires[i]? = some x → LnOk l x
  lost : ∀ l ∈ k.lines, l.ls ≤ k.time
  time : 0 ≤ k.time
theorem any_of_all {α : Type} {f : α → Bool} {l : List α} (h : l.any f = false) {x : α} (hx : x ∈ l) : f x = false := by
  rw [List.any_eq_false] at h
  simpa using h x hx
theorem wiresB_mem {what : Int} {c : List O3} {o : O3} (ho : o ∈ c) (h1 : o.1 = what) (h2 : 0 ≤ o.2.2) (h3 : o.2.2 < 12) : o.2.2 ∈ wiresB what c := by
  unfold wiresB pickN
  rw [List.mem_map]
  refine ⟨o.2.2.toNat, ?_, by simp; omega⟩
  rw [List.mem_filter, List.mem_range'_1]
  refine ⟨by omega, List.any_eq_true.2 ⟨o, ho, ?_⟩⟩
  simp [onW, h1]
  omega
theorem port_wire {at' : W4 → Int} {ws : List W4} {i : Nat} {z : Int} (h : portB at' ws i z = false) : ∃ x, ws[z.toNat]? = some x ∧ at' x = (i : Int) := by
  unfold portB at h
  cases hx : ws[z.toNat]? with
  | none => rw [hx] at h; cases h
  | some x =>
    rw [hx] at h
    exact ⟨x, rfl, by simpa using h⟩
theorem portsAny_false : ∀ {ws : List W4} {l : List (List O3)} {i : Nat}, portsAny ws i l = false → ∀ (j : Nat) c, l[j]? = some c → portsB ws (i + j) c = false
  | ws, [], i, _, j, c, hc => by simp at hc
  | ws, x :: l, i, h, j, c, hc => by
    rw [portsAny, Bool.or_eq_false_iff] at h
    cases j with
    | zero => simp at hc; subst hc; exact h.1
    | succ j =>
      have := portsAny_false h.2 j c (by simpa using hc)
      rw [show i + (j + 1) = i + 1 + j by omega]
      exact this
/-- What a right plan says of an op that sends, or takes. -/
theorem op_wire {p : PD} (h : plchk p = 0) {r : Nat} {c : List O3} {o : O3} (hc : p.code[r]? = some c) (ho : o ∈ c) : (o.1 = 8 → ∃ x, p.wires[o.2.2.toNat]? = some x ∧ x.1 = (r : Int)) ∧ (o.1 = 9 → ∃ x, p.wires[o.2.2.toNat]? = some x ∧ x.2.1 = (r : Int)) := by
  obtain ⟨_, _, _, _, _, _, hcd, hpt⟩ := plchk_zero h
  have hck := codesE_zero hcd c (List.mem_of_getElem? hc)
  obtain ⟨_, hl20, hok⟩ := chk_zero hck
  have hr := ok3_range (hok o ho)
  have hp := portsAny_false hpt r c hc
  rw [Nat.zero_add] at hp
  unfold portsB at hp
  rw [Bool.or_eq_false_iff] at hp
  refine ⟨fun h8 => ?_, fun h9 => ?_⟩
  · have hb : 0 ≤ o.2.2 ∧ o.2.2 < 12 := by simp [h8, bB] at hr; omega
    exact port_wire (any_of_all hp.1 (wiresB_mem ho h8 hb.1 hb.2))
  · have hb : 0 ≤ o.2.2 ∧ o.2.2 < 12 := by simp [h9, bB] at hr; omega
    exact port_wire (any_of_all hp.2 (wiresB_mem ho h9 hb.1 hb.2))
theorem new_ok {p : PD} (h : plchk p = 0) : KOk p (newK p) := by
  obtain ⟨_, _, _, hw, _, _, hcd, _⟩ := plchk_zero h
  refine ⟨by simp [newK], by simp [newK], fun i c s hc hs => ?_, fun i l x hl hx => ?_, fun l hl => ?_, by simp [newK]⟩
  · simp only [newK, List.getElem?_map, hc, Option.map_some, Option.some.injEq] at hs
    subst hs
    have hck := chk_zero (codesE_zero hcd c (List.mem_of_getElem? hc))
    rw [stOk_iff]
    have := hck.1
    exact ⟨by simp [stNew], by simp [stNew]; omega, fun i _ => by simp [stNew]⟩
  · simp only [newK, List.getElem?_map, hx, Option.map_some, Option.some.injEq] at hl
    subst hl
    have := (wschk_ok hw).2 x (List.mem_of_getElem? hx)
    refine ⟨rfl, fun n hn => by simp at hn, fun _ => by simp, fun h2 => ?_, by simp⟩
    rcases wchk_kind this with ⟨h1, _⟩ | ⟨_, h3, _⟩
    · omega
    · simp
      omega
  · simp only [newK, List.mem_map] at hl
    obtain ⟨x, _, rfl⟩ := hl
    simp [newK]
end Go.Proofs.YtlegpedmfpbaiaeDoor
namespace Go.Proofs.YtlegpedmfpbaiaeDoor
open Go.RowKit

/-- Codes that can be read. -/
def Cds (w : World) (v : Value) (cs : List (List O3)) : Prop :=
  (cs = [] ∧ ∃ ao cap, v = .slice ao 0 cap) ∨ ∃ b off cap, v = .slice (some ⟨b, off, none⟩) cs.length cap ∧ cs.length ≤ cap ∧ b < w.heap.size ∧ ∀ (i : Nat) c, cs[i]? = some c → ∃ u, w.cell? ⟨b, off + i, none⟩ = some u ∧ Ops w u c
theorem Cds.all {w w' : World} {v : Value} {cs : List (List O3)} (h : Cds w v cs) (hb : Below w.heap.size w w') : Cds w' v cs := by
  rcases h with h | ⟨b, off, cap, rfl, hcap, hlt, hc⟩
  · exact Or.inl h
  · refine Or.inr ⟨b, off, cap, rfl, hcap, Nat.lt_of_lt_of_le hlt hb.size, fun i c hi => ?_⟩
    obtain ⟨u, h1, h2⟩ := hc i c hi
    exact ⟨u, (hb.cell (p := ⟨b, _, none⟩) hlt).trans h1, h2.all hb⟩
theorem Cds.form {w : World} {v : Value} {cs : List (List O3)} (h : Cds w v cs) : ∃ ao cap, v = .slice ao cs.length cap := by
  rcases h with ⟨rfl, ao, cap, rfl⟩ | ⟨b, off, cap, rfl, _⟩
  · exact ⟨ao, cap, rfl⟩
  · exact ⟨_, cap, rfl⟩
theorem Cds.at {w : World} {ao : Option Addr} {cap : Nat} {cs : List (List O3)} (h : Cds w (.slice ao cs.length cap) cs) {i : Nat} (hi : i < cs.length) : ∃ b off u n g c, ao = some ⟨b, off, none⟩ ∧ b < w.heap.size ∧ cs[i]? = some c ∧ w.cell? ⟨b, off + i, none⟩ = some (.slice u n g) ∧ n = c.length ∧ Ops w (.slice u n g) c := by
  rcases h with ⟨rfl, _⟩ | ⟨b, off, cap', e, _, hlt, hc⟩
  · simp at hi
  · injection e with e1
    obtain ⟨u, h1, h2⟩ := hc i _ (List.getElem?_eq_getElem hi)
    obtain ⟨ua, uc, rfl⟩ := h2.form
    exact ⟨b, off, ua, _, uc, _, e1, hlt, List.getElem?_eq_getElem hi, h1, rfl, h2⟩
theorem Sps.at {w : World} {ao : Option Addr} {cap : Nat} {l : List S3} (h : Sps w (.slice ao l.length cap) l) {i : Nat} (hi : i < l.length) : ∃ b off f t r, ao = some ⟨b, off, none⟩ ∧ b < w.heap.size ∧ l[i]? = some (f, t, r) ∧ w.cell? ⟨b, off + i * 3, none⟩ = some (.int .i64 f) ∧ w.cell? ⟨b, off + i * 3 + 1, none⟩ = some (.int .i64 t) ∧ w.cell? ⟨b, off + i * 3 + 2, none⟩ = some (.int .i64 r) := by
  rcases h with ⟨rfl, _⟩ | ⟨b, off, cap', e, _, hlt, hc⟩
  · simp at hi
  · injection e with e1
    obtain ⟨⟨f, t, r⟩, hx'⟩ : ∃ x : S3, l[i]? = some x := ⟨l[i], List.getElem?_eq_getElem hi⟩
    obtain ⟨h0, h1, h2⟩ := hc i _ hx'
    exact ⟨b, off, f, t, r, e1, hlt, hx', h0, h1, h2⟩
/-- A plan's parts can be read. -/
structure Pln (w : World) (vc vs vw : Value) (p : PD) : Prop where
  code : Cds w vc p.code
  spans : Sps w vs p.spans
  wires : Wrs w vw p.wires
theorem Pln.all {w w' : World} {vc vs vw : Value} {p : PD} (h : Pln w vc vs vw p) (hb : Below w.heap.size w w') : Pln w' vc vs vw p := ⟨h.code.all hb, h.spans.all hb, h.wires.all hb⟩
/-- A plan as a value. -/
def plV (vc : Value) (n : Int) (vs vw : Value) : Value := .agg #[vc, .int .i64 n, vs, vw]
/-- Behind the box of a plan. -/
def Bx (w W : World) (vc : Value) (n : Int) (vs vw : Value) : Prop := Below (w.heap.size + 1) (w.alloc (.cells #[vc, .int .i64 n, vs, vw] 26)) W
theorem Bx.first (w : World) (vc : Value) (n : Int) (vs vw : Value) : Bx w (w.alloc (.cells #[vc, .int .i64 n, vs, vw] 26)) vc n vs vw := Below.refl _ _
theorem Bx.size {w W : World} {vc vs vw : Value} {n : Int} (h : Bx w W vc n vs vw) : w.heap.size + 1 ≤ W.heap.size := by
  have := Below.size h
  simpa using this
theorem Bx.step {w W W' : World} {vc vs vw : Value} {n : Int} (h : Bx w W vc n vs vw) (hb : Below W.heap.size W W') : Bx w W' vc n vs vw := Below.trans h (hb.mono h.size)
theorem Bx.dN {w W : World} {vc vs vw : Value} {n : Int} (h : Bx w W vc n vs vw) (k : Nat) : Bx w (W.drewN k) vc n vs vw := below_dN h k
theorem Bx.below {w W : World} {vc vs vw : Value} {n : Int} (h : Bx w W vc n vs vw) : Below w.heap.size w W := ((Below.refl _ _).alloc (Nat.le_refl _) _).trans (Below.mono h (Nat.le_succ _))
theorem Bx.c0 {w W : World} {vc vs vw : Value} {n : Int} (h : Bx w W vc n vs vw) : W.cell? ⟨w.heap.size, 0, none⟩ = some vc := (Below.cell h (p := ⟨w.heap.size, 0, none⟩) (by simp)).trans (by simp)
theorem Bx.c1 {w W : World} {vc vs vw : Value} {n : Int} (h : Bx w W vc n vs vw) : W.cell? ⟨w.heap.size, 1, none⟩ = some (.int .i64 n) := (Below.cell h (p := ⟨w.heap.size, 1, none⟩) (by simp)).trans (by simp)
theorem Bx.c2 {w W : World} {vc vs vw : Value} {n : Int} (h : Bx w W vc n vs vw) : W.cell? ⟨w.heap.size, 2, none⟩ = some vs := (Below.cell h (p := ⟨w.heap.size, 2, none⟩) (by simp)).trans (by simp)
theorem Bx.c3 {w W : World} {vc vs vw : Value} {n : Int} (h : Bx w W vc n vs vw) : W.cell? ⟨w.heap.size, 3, none⟩ = some vw := (Below.cell h (p := ⟨w.heap.size, 3, none⟩) (by simp)).trans (by simp)
theorem any_false {α : Type} {f : α → Bool} {l : List α} (h : ∀ (j : Nat) y, j < l.length → l[j]? = some y → f y = false) : l.any f = false := by
  rw [List.any_eq_false]
  intro x hx
  obtain ⟨j, hj⟩ := List.mem_iff_getElem?.1 hx
  rw [h j x (List.getElem?_eq_some_iff.1 hj).1 hj]
  simp
theorem any_hit {α : Type} {f : α → Bool} {l : List α} {k : Nat} {x : α} (h : l[k]? = some x) (hf : f x = true) : l.any f = true := List.any_eq_true.2 ⟨x, List.mem_of_getElem? h, hf⟩
/-- One more that is not. -/
theorem upto_next {α : Type} {f : α → Bool} {l : List α} {k : Nat} {x : α} (h : ∀ (j : Nat) y, j < k → l[j]? = some y → f y = false) (hx : l[k]? = some x) (hf : f x = false) : ∀ (j : Nat) y, j < k + 1 → l[j]? = some y → f y = false := fun j y hj hy => by
  by_cases hjk : j < k
  · exact h j y hjk hy
  · obtain rfl : j = k := by omega
    rw [hx] at hy
    obtain rfl := Option.some.inj hy
    exact hf
/-- A plan whose parts all lie from a block on: it stays where only what lies before it is written. -/
def PlnF (B : Nat) (w : World) (vc vs vw : Value) (p : PD) : Prop := ∀ w', w.heap.size ≤ w'.heap.size → (∀ b o, B ≤ b → w'.cell? ⟨b, o, none⟩ = w.cell? ⟨b, o, none⟩) → Pln w' vc vs vw p
theorem PlnF.here {B : Nat} {w : World} {vc vs vw : Value} {p : PD} (h : PlnF B w vc vs vw p) : Pln w vc vs vw p := h w (Nat.le_refl _) (fun _ _ _ => rfl)
end Go.Proofs.YtlegpedmfpbaiaeDoor
namespace Go.Proofs.YtlegpedmfpbaiaeDoor
open Go.RowKit

/-- The ports of a room, one kind of them, as they are gone over. -/
theorem ports_bad {at' : W4 → Int} {ws : List W4} {i : Nat} {zs : List Int} {k : Nat} {z : Int} (hz : zs[k]? = some z) (h : portB at' ws i z = true) : zs.any (portB at' ws i) = true := any_hit hz h
theorem wires_mem {what : Int} {c : List O3} {z : Int} (h : z ∈ wiresB what c) : 0 ≤ z ∧ z < 12 := by
  unfold wiresB pickN at h
  simp only [List.mem_map, List.mem_filter, List.mem_range'_1] at h
  obtain ⟨a, ⟨⟨_, h2⟩, _⟩, rfl⟩ := h
  simp
  omega
theorem port_out {ws : List W4} {i : Nat} {c : List O3} (h : (wiresB 8 c).any (portB (·.1) ws i) = true) : portsB ws i c = true := by unfold portsB; rw [h]; rfl
theorem port_in {ws : List W4} {i : Nat} {c : List O3} (h : (wiresB 9 c).any (portB (·.2.1) ws i) = true) : portsB ws i c = true := by unfold portsB; rw [h, Bool.or_true]
theorem ports_next {ws : List W4} {l : List (List O3)} {k : Nat} {c : List O3} (h : ∀ (j : Nat) y, j < k → l[j]? = some y → portsB ws j y = false) (hx : l[k]? = some c) (hf : portsB ws k c = false) : ∀ (j : Nat) y, j < k + 1 → l[j]? = some y → portsB ws j y = false := fun j y hj hy => by
  by_cases hjk : j < k
  · exact h j y hjk hy
  · obtain rfl : j = k := by omega
    rw [hx] at hy
    obtain rfl := Option.some.inj hy
    exact hf
theorem stp_of_ints {w : World} {v : Value} {zs : List Int} (h : Ints w v zs) : Stp w v zs := by
  rcases h with ⟨rfl, rfl⟩ | ⟨a, cap, rfl, ha, hc⟩
  · exact Or.inl ⟨rfl, _, _, rfl⟩
  · cases zs with
    | nil => exact Or.inl ⟨rfl, _, _, rfl⟩
    | cons z zs =>
      have h0 := hc 0 z rfl
      have ea : a = ⟨a.block, a.off, none⟩ := by
        obtain ⟨b, o, s⟩ := a
        cases s with
        | none => rfl
        | some s =>
          exfalso
          unfold Addr.add at h0
          simp [World.cell?] at h0
          split at h0 <;> simp at h0
      refine Or.inr ⟨a.block, a.off, cap, by rw [← ea], ha, fun i x hx => ?_⟩
      have := hc i x hx
      rw [ea, Addr.add_lit] at this
      exact this
end Go.Proofs.YtlegpedmfpbaiaeDoor
namespace Go.Proofs.YtlegpedmfpbaiaeDoor

theorem headL_ok {l : LnD} {x : W4} (h : LnOk l x) : (headL l).2 = true → 0 ≤ (headL l).1 ∧ (headL l).1 ≤ 999 := by
  unfold headL
  intro hh
  cases hx : l.xs with
  | nil => rw [hx] at hh; cases hh
  | cons n ys => exact h.xs n (by rw [hx]; simp)
theorem restL_ok {l : LnD} {x : W4} (h : LnOk l x) : LnOk (restL l) x := by
  unfold restL
  cases hx : l.xs with
  | nil => exact h
  | cons n ys =>
    simp only
    split
    · refine ⟨h.w, fun m hm => h.xs m (by rw [hx]; simp [hm]), fun h1 => ?_, fun h2 => ?_, h.ls⟩
      · have := h.one h1
        rw [hx, List.length_cons] at this
        simp only
        omega
      · have := h.deep h2
        rw [hx, List.length_cons] at this
        simp only
        omega
    · exact h
theorem restL_ls (l : LnD) : (restL l).ls = l.ls := by
  unfold restL
  split
  · rfl
  · split <;> rfl
theorem putL_ok {l : LnD} {x : W4} {n : Int} (h : LnOk l x) (hn : 0 ≤ n ∧ n ≤ 999) : LnOk (putL l n) x := by
  unfold putL
  split
  · rename_i h1
    rw [h.w] at h1
    exact ⟨h.w, fun m hm => by simp at hm; subst hm; exact hn, fun _ => by simp, fun h2 => by omega, h.ls⟩
  · rename_i h1
    rw [h.w] at h1
    split
    · rename_i h2
      rw [h.w] at h2
      refine ⟨h.w, fun m hm => ?_, fun h3 => absurd h3 h1, fun _ => by simp; omega, h.ls⟩
      rcases List.mem_append.1 hm with hm | hm
      · exact h.xs m hm
      · simp at hm; subst hm; exact hn
    · exact ⟨h.w, h.xs, fun h3 => absurd h3 h1, h.deep, by have := h.ls; simp; omega⟩
theorem putL_ls (l : LnD) (n : Int) : (putL l n).ls ≤ l.ls + 1 := by
  unfold putL
  split
  · simp only
    omega
  · split
    · simp only
      omega
    · simp
/-- Lines of which one is another one. -/
theorem lines_set {ls : List LnD} {ws : List W4} {j : Nat} {l' : LnD} (h : ∀ (i : Nat) l x, ls[i]? = some l → ws[i]? = some x → LnOk l x) (h' : ∀ x, ws[j]? = some x → LnOk l' x) : ∀ (i : Nat) l x, (ls.set j l')[i]? = some l → ws[i]? = some x → LnOk l x := fun i l x hl hx => by
  by_cases hij : j = i
  · subst hij
    have hlt : j < ls.length := by
      have := (List.getElem?_eq_some_iff.1 hl).1
      simpa using this
    rw [List.getElem?_set_self hlt] at hl
    obtain rfl := Option.some.inj hl
    exact h' x hx
  · rw [List.getElem?_set_ne hij] at hl
    exact h i l x hl hx
structure Turn (p : PD) (k : KD) (r : Nat) (c : List O3) (s : St) (o : O3) : Prop where
  hc : p.code[r]? = some c
  hs : k.rooms[r]? = some s
  ho : c[s.p.toNat]? = some o
  ck : (chk c).2 = 0
  st : stOk s c.length = true
  ok : ok3 c.length o = true
theorem turn_of {p : PD} {k : KD} (h : plchk p = 0) (hk : KOk p k) {r : Nat} (hr : r < p.code.length) : ∃ c s o, Turn p k r c s o := by
  obtain ⟨_, _, _, _, _, _, hcd, _⟩ := plchk_zero h
  have hc : p.code[r]? = some p.code[r] := List.getElem?_eq_getElem hr
  have hs : k.rooms[r]? = some (k.rooms[r]'(by rw [hk.rl]; exact hr)) := List.getElem?_eq_getElem _
  have hck := codesE_zero hcd _ (List.mem_of_getElem? hc)
  have hst := hk.rooms r _ _ hc hs
  have hp := stOk_iff.1 hst
  have hlt : (k.rooms[r]'(by rw [hk.rl]; exact hr)).p.toNat < p.code[r].length := by omega
  exact ⟨_, _, _, hc, hs, List.getElem?_eq_getElem hlt, hck, hst, (chk_zero hck).2.2 _ (List.getElem_mem hlt)⟩
theorem Turn.at {p : PD} {k : KD} {r : Nat} {c : List O3} {s : St} {o : O3} (h : Turn p k r c s o) : p.code.getD r [] = c ∧ k.rooms.getD r stNew = s ∧ opAt c s = o := by
  unfold opAt
  simp [List.getD, h.hc, h.hs, h.ho]
/-- What is there to be taken is a number of a room. -/
theorem got_ok {p : PD} {k : KD} (hp : plchk p = 0) (hk : KOk p k) {r : Nat} {c : List O3} {s : St} {o : O3} (h : Turn p k r c s o) : (gotK k o s).2 = true → 0 ≤ (gotK k o s).1 ∧ (gotK k o s).1 ≤ 999 := by
  unfold gotK
  split
  · rename_i ht
    unfold takesB at ht
    simp only [Bool.and_eq_true, decide_eq_true_eq] at ht
    obtain ⟨x, hx, _⟩ := (op_wire hp h.hc (List.mem_of_getElem? h.ho)).2 ht.2
    have hlt : o.2.2.toNat < k.lines.length := by rw [hk.ll]; exact (List.getElem?_eq_some_iff.1 hx).1
    have hl : k.lines[o.2.2.toNat]? = some k.lines[o.2.2.toNat] := List.getElem?_eq_getElem hlt
    have e : lineAt k o = k.lines[o.2.2.toNat] := by simp [lineAt, List.getD, hl]
    rw [e]
    exact headL_ok (hk.lines _ _ _ hl hx)
  · intro hh; cases hh
theorem stepK_ok {p : PD} {k : KD} {r : Nat} {c : List O3} {s : St} {o : O3} (h : Turn p k r c s o) {got : Int} {is : Bool} (hg : is = true → 0 ≤ got ∧ got ≤ 999) : stOk (stepF o s c.length got is) c.length = true := by
  have hp := stOk_iff.1 h.st
  have hr := ok3_range h.ok
  unfold stepF
  split
  · exact h.st
  · rw [stOk_iff]
    have hn := nextF_ok (o := o) (s := s) (n := c.length) (is := is) hp.1 hp.2.1 (fun hh => by rcases hh with h6 | h7 <;> simp_all [bB])
    refine ⟨hn.1, hn.2, cellsF_ok hp.2.2 (fun h1 => by simp [h1, bB] at hr; omega) (fun h2 => by simp [h2, bB] at hr; omega) hg⟩
theorem sendK_range {p : PD} {k : KD} {r : Nat} {c : List O3} {s : St} {o : O3} (h : Turn p k r c s o) : -1 ≤ sendF o s ∧ sendF o s ≤ 999 ∧ (0 ≤ sendF o s → o.1 = 8 ∧ s.f = false) := by
  have hp := stOk_iff.1 h.st
  have hs := ok3_small (o := o) (ops := c.length) (by have := (chk_zero h.ck).2.1; omega) h.ok
  unfold sendF
  split
  · exact ⟨by omega, by omega, fun hh => by omega⟩
  · rename_i hf
    have := sentF_ok (o := o) hp.2.2 (by omega)
    exact ⟨this.1, this.2, fun hh => ⟨sentF_send hh, by simpa using hf⟩⟩
theorem linesT_ok {p : PD} {k : KD} (hk : KOk p k) (o : O3) (s : St) : (linesT k o s).length = p.wires.length ∧ (∀ (i : Nat) l x, (linesT k o s)[i]? = some l → p.wires[i]? = some x → LnOk l x) ∧ ∀ l ∈ linesT k o s, l.ls ≤ k.time := by
  unfold linesT
  split
  · refine ⟨by rw [List.length_set]; exact hk.ll, lines_set hk.lines (fun x hx => ?_), fun l hl => ?_⟩
    · have hlt : o.2.2.toNat < k.lines.length := by rw [hk.ll]; exact (List.getElem?_eq_some_iff.1 hx).1
      have hl : k.lines[o.2.2.toNat]? = some k.lines[o.2.2.toNat] := List.getElem?_eq_getElem hlt
      have e : lineAt k o = k.lines[o.2.2.toNat] := by simp [lineAt, List.getD, hl]
      rw [e]
      exact restL_ok (hk.lines _ _ _ hl hx)
    · rcases List.mem_or_eq_of_mem_set hl with h1 | h1
      · exact hk.lost l h1
      · rw [h1, restL_ls]
        unfold lineAt
        rw [List.getD]
        cases hx : k.lines[o.2.2.toNat]? with
        | none => have := hk.time; simpa [LnD.none] using this
        | some y => exact hk.lost y (List.mem_of_getElem? hx)
  · exact ⟨hk.ll, hk.lines, hk.lost⟩
theorem turn_ok {p : PD} {k : KD} (hp : plchk p = 0) (hk : KOk p k) {r : Nat} (hr : r < p.code.length) : KOk p (turnK p k r).1 := by
  obtain ⟨c, s, o, h⟩ := turn_of hp hk hr
  obtain ⟨e1, e2, e3⟩ := h.at
  obtain ⟨t1, t2, t3⟩ := linesT_ok hk o s
  have hsr := sendK_range h
  unfold turnK
  simp only [e1, e2, e3]
  refine ⟨by simp [hk.rl], ?_, fun i c' s' hc' hs' => ?_, ?_, ?_, by have := hk.time; simp; omega⟩
  · simp only
    unfold linesS
    split <;> simp [t1]
  · simp only at hs'
    by_cases hir : r = i
    · subst hir
      rw [List.getElem?_set_self (by rw [hk.rl]; exact hr)] at hs'
      obtain rfl := Option.some.inj hs'
      rw [h.hc] at hc'
      obtain rfl := Option.some.inj hc'
      exact stepK_ok h (got_ok hp hk h)
    · rw [List.getElem?_set_ne hir] at hs'
      exact hk.rooms i c' s' hc' hs'
  · simp only
    unfold linesS
    split
    · rename_i h0
      refine lines_set t2 (fun x hx => ?_)
      have hlt : o.2.2.toNat < (linesT k o s).length := by rw [t1]; exact (List.getElem?_eq_some_iff.1 hx).1
      have hl : (linesT k o s)[o.2.2.toNat]? = some (linesT k o s)[o.2.2.toNat] := List.getElem?_eq_getElem hlt
      have e : (linesT k o s).getD o.2.2.toNat LnD.none = (linesT k o s)[o.2.2.toNat] := by simp [List.getD, hl]
      rw [e]
      exact putL_ok (t2 _ _ _ hl hx) ⟨h0, hsr.2.1⟩
    · exact t2
  · simp only
    intro l hl
    unfold linesS at hl
    split at hl
    · rcases List.mem_or_eq_of_mem_set hl with h1 | h1
      · have := t3 l h1
        omega
      · have h2 := putL_ls ((linesT k o s).getD o.2.2.toNat LnD.none) (sendF o s)
        rw [← h1] at h2
        rw [List.getD] at h2
        cases hx : (linesT k o s)[o.2.2.toNat]? with
        | none => rw [hx] at h2; have := hk.time; simp [LnD.none] at h2; omega
        | some y => rw [hx] at h2; have := t3 y (List.mem_of_getElem? hx); simp at h2; omega
    · have := t3 l hl
      omega
theorem who_room {p : PD} (hp : plchk p = 0) (t : Int) : -1 ≤ hold p.spans t ∧ (0 ≤ hold p.spans t → (hold p.spans t).toNat < p.code.length) := by
  obtain ⟨_, _, hf, _, hs, _, _, _⟩ := plchk_zero hp
  have hr := hold_range (t := t) (fchk_zero hf).2.2.2.1
  refine ⟨hr.1, fun h0 => ?_⟩
  cases hi : p.spans.findIdx? (hits t) with
  | none => rw [hold_none hi] at h0; omega
  | some i =>
    have hi' := hi
    rw [List.findIdx?_eq_some_iff_getElem] at hi'
    obtain ⟨hlt, _⟩ := hi'
    have hg : p.spans[i]? = some p.spans[i] := List.getElem?_eq_getElem hlt
    rw [hold_some hi hg] at h0 ⊢
    have := any_of_all hs (List.mem_of_getElem? hg)
    simp [spanOut] at this
    omega
theorem tick_ok {p : PD} {k : KD} (hp : plchk p = 0) (hk : KOk p k) : KOk p (tickK p p.spans k).1 := by
  have hw := who_room hp (k.time % p.ticks)
  unfold tickK
  simp only
  split
  · exact ⟨hk.rl, hk.ll, hk.rooms, hk.lines, fun l hl => by have := hk.lost l hl; simp; omega, by have := hk.time; simp; omega⟩
  · exact turn_ok hp hk (hw.2 (by omega))
theorem tick_time (p : PD) (sp : List S3) (k : KD) : (tickK p sp k).1.time = k.time + 1 := by
  unfold tickK
  simp only
  split <;> rfl
end Go.Proofs.YtlegpedmfpbaiaeDoor
namespace Go.Proofs.YtlegpedmfpbaiaeDoor
open Go.RowKit

/-- What a call leaves alone: all blocks that were there, but those that are named. -/
structure KTouch (M : List Nat) (w w' : World) : Prop where
  os : w'.os = w.os
  tape : w'.tape = w.tape
  output : w'.output = w.output
  size : w.heap.size ≤ w'.heap.size
  block : ∀ k, k < w.heap.size → k ∉ M → w'.heap[k]? = w.heap[k]?
theorem KTouch.refl (M : List Nat) (w : World) : KTouch M w w := ⟨rfl, rfl, rfl, Nat.le_refl _, fun _ _ _ => rfl⟩
theorem KTouch.trans {M : List Nat} {a b c : World} (h : KTouch M a b) (g : KTouch M b c) : KTouch M a c :=
  ⟨g.os.trans h.os, g.tape.trans h.tape, g.output.trans h.output, Nat.le_trans h.size g.size, fun k hk hm => (g.block k (Nat.lt_of_lt_of_le hk h.size) hm).trans (h.block k hk hm)⟩
theorem KTouch.of {M : List Nat} {w w' : World} (h : Below w.heap.size w w') : KTouch M w w' := ⟨h.os, h.tape, h.output, h.size, fun k hk _ => h.block k hk⟩
theorem KTouch.set {M : List Nat} (w : World) {b : Nat} (hb : b ∈ M) (i : Nat) (v : Value) : KTouch M w (w.setCell ⟨b, i, none⟩ v) :=
  ⟨rfl, rfl, rfl, by simp, fun k _ hm => Below.heap_setCell _ _ _ _ (fun e => hm (by rw [show k = b from e]; exact hb))⟩
theorem KTouch.below {M : List Nat} {w w' : World} (h : KTouch M w w') {B : Nat} (hB : ∀ b ∈ M, B ≤ b) (hw : B ≤ w.heap.size) : Below B w w' :=
  ⟨h.os, h.tape, h.output, h.size, fun k hk => h.block k (by omega) (fun hm => by have := hB k hm; omega)⟩
theorem KTouch.drew {M : List Nat} {w w' : World} (h : KTouch M w w') : KTouch M w w'.drew := h.trans (KTouch.of (Below.refl _ _).drew)
theorem KTouch.more {M M' : List Nat} {w w' w'' : World} (h : KTouch M w w') (g : KTouch M' w' w'') (hn : ∀ m ∈ M', w.heap.size ≤ m) : KTouch M w w'' :=
  ⟨g.os.trans h.os, g.tape.trans h.tape, g.output.trans h.output, Nat.le_trans h.size g.size, fun k hk hm => (g.block k (Nat.lt_of_lt_of_le hk h.size) (fun hm' => by have := hn k hm'; omega)).trans (h.block k hk hm)⟩
theorem KTouch.mono {M M' : List Nat} {w w' : World} (h : KTouch M w w') (hm : ∀ m ∈ M, m ∈ M') : KTouch M' w w' := ⟨h.os, h.tape, h.output, h.size, fun k hk hn => h.block k hk (fun h2 => hn (hm k h2))⟩
/-- The cells of a state. -/
structure StC (w : World) (b o : Nat) (s : St) : Prop where
  p : w.cell? ⟨b, o, none⟩ = some (.int .i64 s.p)
  c0 : w.cell? ⟨b, o + 1, none⟩ = some (.int .i64 (s.c 0))
  c1 : w.cell? ⟨b, o + 2, none⟩ = some (.int .i64 (s.c 1))
  c2 : w.cell? ⟨b, o + 3, none⟩ = some (.int .i64 (s.c 2))
  c3 : w.cell? ⟨b, o + 4, none⟩ = some (.int .i64 (s.c 3))
  c4 : w.cell? ⟨b, o + 5, none⟩ = some (.int .i64 (s.c 4))
  c5 : w.cell? ⟨b, o + 6, none⟩ = some (.int .i64 (s.c 5))
  f : w.cell? ⟨b, o + 7, none⟩ = some (.bool s.f)
theorem StC.block {w w' : World} {b o : Nat} {s : St} (h : StC w b o s) (hb : w'.heap[b]? = w.heap[b]?) : StC w' b o s := by
  have hc := fun i => World.cell?_of_block (w := w) (w' := w') (a := ⟨b, i, none⟩) hb
  exact ⟨(hc _).trans h.p, (hc _).trans h.c0, (hc _).trans h.c1, (hc _).trans h.c2, (hc _).trans h.c3, (hc _).trans h.c4, (hc _).trans h.c5, (hc _).trans h.f⟩
/-- A cell is another number. -/
def pokeS (s : St) (c : Nat) (n : Int) : St := ⟨s.p, fun i => if i = c then n else s.c i, s.f⟩
/-- What is wrong with a poke. -/
def pokeB (k : KD) (r c n : Int) : Bool := decide (r < 0) || decide ((k.rooms.length : Int) ≤ r) || decide (c < 0) || decide (5 < c) || decide (n < 0) || decide (999 < n)
/-- .. as a number. -/
def pokeN (k : KD) (r c n : Int) : Int := if pokeB k r c n = true then 1 else 0
def pokeK (k : KD) (r c n : Int) : KD := if pokeB k r c n = true then k else ⟨k.rooms.set r.toNat (pokeS (k.rooms.getD r.toNat stNew) c.toNat n), k.lines, k.time⟩
theorem pokeB_false {k : KD} {r c n : Int} (h : pokeB k r c n = false) : 0 ≤ r ∧ r < k.rooms.length ∧ 0 ≤ c ∧ c ≤ 5 ∧ 0 ≤ n ∧ n ≤ 999 := by
  unfold pokeB at h
  simp only [Bool.or_eq_false_iff, decide_eq_false_iff_not] at h
  omega
theorem pokeS_ok {s : St} {m : Nat} (h : stOk s m = true) {c : Nat} {n : Int} (hn : 0 ≤ n ∧ n ≤ 999) : stOk (pokeS s c n) m = true := by
  obtain ⟨h1, h2, h3⟩ := stOk_iff.1 h
  refine stOk_iff.2 ⟨h1, h2, fun i hi => ?_⟩
  show 0 ≤ (if i = c then n else s.c i) ∧ (if i = c then n else s.c i) ≤ 999
  split
  · exact hn
  · exact h3 i hi
theorem poke_ok {p : PD} {k : KD} (hk : KOk p k) (r c n : Int) : KOk p (pokeK k r c n) := by
  unfold pokeK
  cases hb : pokeB k r c n with
  | true => rw [if_pos rfl]; exact hk
  | false =>
    rw [if_neg (by decide)]
    obtain ⟨h0, h1, h2, h3, h4, h5⟩ := pokeB_false hb
    refine ⟨by simp only [List.length_set]; exact hk.rl, hk.ll, fun i c' s hc hs => ?_, hk.lines, hk.lost, hk.time⟩
    simp only at hs
    by_cases hij : r.toNat = i
    · subst hij
      have hlt : r.toNat < k.rooms.length := by omega
      rw [List.getElem?_set_self hlt] at hs
      obtain rfl := Option.some.inj hs
      have hs0 : k.rooms[r.toNat]? = some k.rooms[r.toNat] := List.getElem?_eq_getElem hlt
      rw [show k.rooms.getD r.toNat stNew = k.rooms[r.toNat] by simp [List.getD, hs0]]
      exact pokeS_ok (hk.rooms _ _ _ hc hs0) ⟨h4, h5⟩
    · rw [List.getElem?_set_ne hij] at hs
      exact hk.rooms i c' s hc hs
end Go.Proofs.YtlegpedmfpbaiaeDoor
namespace Go.Proofs.YtlegpedmfpbaiaeDoor

/-- A kernel behind so many ticks. -/
def kT (p : PD) : Nat → KD
  | 0 => newK p
  | t + 1 => (tickK p p.spans (kT p t)).1
theorem kT_time (p : PD) : ∀ t, (kT p t).time = t
  | 0 => rfl
  | t + 1 => by
    show (tickK p p.spans (kT p t)).1.time = _
    rw [tick_time, kT_time p t]
    omega
theorem kT_ok {p : PD} (hp : plchk p = 0) : ∀ t, KOk p (kT p t)
  | 0 => new_ok hp
  | t + 1 => tick_ok hp (kT_ok hp t)
/-- Whose turn it is. -/
def whoK (p : PD) (k : KD) : Int := hold p.spans (k.time % p.ticks)
theorem tick_told (p : PD) (k : KD) : (tickK p p.spans k).2.1 = k.time ∧ (tickK p p.spans k).2.2.1 = whoK p k := by
  unfold tickK whoK
  simp only
  split
  · exact ⟨rfl, rfl⟩
  · exact ⟨rfl, rfl⟩
/-- No room but the one whose turn it is. -/
theorem tick_room {p : PD} {k : KD} {r : Nat} (hr : (r : Int) ≠ whoK p k) : (tickK p p.spans k).1.rooms[r]? = k.rooms[r]? := by
  unfold whoK at hr
  unfold tickK
  simp only
  split
  · rfl
  · rename_i h
    show (k.rooms.set _ _)[r]? = _
    rw [List.getElem?_set_ne (by omega)]
/-- No wire but those of it. -/
theorem tick_line {p : PD} {k : KD} (hp : plchk p = 0) (hk : KOk p k) {i : Nat} {x : W4} (hx : p.wires[i]? = some x) (h1 : x.1 ≠ whoK p k) (h2 : x.2.1 ≠ whoK p k) : (tickK p p.spans k).1.lines[i]? = k.lines[i]? := by
  have hw := (who_room hp (k.time % p.ticks)).2
  unfold whoK at h1 h2
  unfold tickK
  simp only
  split
  · rfl
  · rename_i h
    obtain ⟨rn, hrn⟩ : ∃ n : Nat, hold p.spans (k.time % p.ticks) = n := ⟨(hold p.spans (k.time % p.ticks)).toNat, by omega⟩
    rw [hrn] at h1 h2 hw ⊢
    have hlt : rn < p.code.length := by simpa using hw (by omega)
    obtain ⟨c, s, o, ht⟩ := turn_of hp hk hlt
    obtain ⟨e1, e2, e3⟩ := ht.at
    rw [Int.toNat_natCast]
    unfold turnK
    simp only [e1, e2, e3]
    have hop := op_wire hp ht.hc (List.mem_of_getElem? ht.ho)
    have hT : (linesT k o s)[i]? = k.lines[i]? := by
      unfold linesT
      split
      · rename_i htk
        have h9 : o.1 = 9 := by
          unfold takesB at htk
          simp only [Bool.and_eq_true, decide_eq_true_eq] at htk
          exact htk.2
        obtain ⟨y, hy, hy2⟩ := hop.2 h9
        refine List.getElem?_set_ne (fun e => ?_)
        rw [e, hx] at hy
        obtain rfl := Option.some.inj hy
        exact h2 hy2
      · rfl
    rw [← hT]
    unfold linesS
    split
    · rename_i hs
      have h8 := ((sendK_range ht).2.2 hs).1
      obtain ⟨y, hy, hy2⟩ := hop.1 h8
      refine List.getElem?_set_ne (fun e => ?_)
      rw [e, hx] at hy
      obtain rfl := Option.some.inj hy
      exact h1 hy2
    · rfl
end Go.Proofs.YtlegpedmfpbaiaeDoor
namespace Go.Proofs.YtlegpedmfpbaiaeDoor

theorem set_same {α : Type} {l : List α} {i : Nat} {x : α} (h : l[i]? = some x) : l.set i x = l := by
  apply List.ext_getElem?
  intro j
  rw [List.getElem?_set]
  by_cases hij : i = j
  · subst hij
    rw [if_pos rfl, if_pos (List.getElem?_eq_some_iff.1 h).1, h]
  · simp [hij]
/-- It had failed ahead. -/
theorem turn_failed {p : PD} {k : KD} {r : Nat} {c : List O3} {s : St} {o : O3} (h : Turn p k r c s o) (hf : s.f = true) : turnK p k r = (⟨k.rooms, k.lines, k.time + 1⟩, s.p, 5) := by
  obtain ⟨e1, e2, e3⟩ := h.at
  have ht : takesB o s = false := by unfold takesB; rw [hf]; rfl
  have hs : sendF o s = -1 := by unfold sendF; rw [hf, if_pos rfl]
  unfold turnK
  simp only [e1, e2, e3]
  unfold linesS cameK linesT gotK
  rw [ht, hs]
  simp only [Bool.false_eq_true, if_false, show ¬ ((0 : Int) ≤ -1) by omega, false_and]
  unfold stepF whatF
  rw [hf, if_pos rfl, if_pos rfl, set_same h.hs]
/-- It takes, and there is something. -/
theorem turn_takes {p : PD} {k : KD} {r : Nat} {c : List O3} {s : St} {o : O3} (h : Turn p k r c s o) (hf : s.f = false) (h9 : o.1 = 9) {l : LnD} (hl : k.lines[o.2.2.toNat]? = some l) (hh : (headL l).2 = true) :
    turnK p k r = (⟨k.rooms.set r (stepF o s c.length (headL l).1 true), k.lines.set o.2.2.toNat (restL l), k.time + 1⟩, s.p, 2) := by
  obtain ⟨e1, e2, e3⟩ := h.at
  have ht : takesB o s = true := by unfold takesB; rw [hf, h9]; rfl
  have hs : sendF o s = -1 := by unfold sendF sentF; rw [hf, if_neg (by decide), if_neg (by omega)]
  have hla : lineAt k o = l := by simp [lineAt, List.getD, hl]
  unfold turnK
  simp only [e1, e2, e3]
  unfold linesS cameK linesT gotK
  rw [ht, hs, hla]
  simp only [if_true, show ¬ ((0 : Int) ≤ -1) by omega, if_false, false_and, hh]
  unfold whatF
  rw [hf, if_neg (by decide), if_neg (by omega), if_pos h9, if_pos rfl]
/-- It takes, and there is nothing. -/
theorem turn_waits {p : PD} {k : KD} {r : Nat} {c : List O3} {s : St} {o : O3} (h : Turn p k r c s o) (hf : s.f = false) (h9 : o.1 = 9) {l : LnD} (hl : k.lines[o.2.2.toNat]? = some l) (hh : (headL l).2 = false) :
    turnK p k r = (⟨k.rooms.set r (stepF o s c.length 0 false), k.lines, k.time + 1⟩, s.p, 3) := by
  obtain ⟨e1, e2, e3⟩ := h.at
  have ht : takesB o s = true := by unfold takesB; rw [hf, h9]; rfl
  have hs : sendF o s = -1 := by unfold sendF sentF; rw [hf, if_neg (by decide), if_neg (by omega)]
  have hla : lineAt k o = l := by simp [lineAt, List.getD, hl]
  have hx : l.xs = [] := by
    unfold headL at hh
    split at hh
    · assumption
    · cases hh
  have hhd : headL l = (0, false) := by unfold headL; rw [hx]
  have hre : restL l = l := by unfold restL; rw [hx]
  unfold turnK
  simp only [e1, e2, e3]
  unfold linesS cameK linesT gotK
  rw [ht, hs, hla, hre, hhd]
  simp only [if_true, show ¬ ((0 : Int) ≤ -1) by omega, if_false, false_and]
  rw [set_same hl]
  unfold whatF
  rw [hf, if_neg (by decide), if_neg (by omega), if_pos h9, if_neg (by decide)]
/-- It sends. -/
theorem turn_sends {p : PD} {k : KD} {r : Nat} {c : List O3} {s : St} {o : O3} (h : Turn p k r c s o) (hf : s.f = false) (h8 : o.1 = 8) {l : LnD} (hl : k.lines[o.2.2.toNat]? = some l) :
    turnK p k r = (⟨k.rooms.set r (stepF o s c.length 0 false), k.lines.set o.2.2.toNat (putL l (s.c o.2.1.toNat)), k.time + 1⟩, s.p, if fitL l = true then 1 else 3) := by
  obtain ⟨e1, e2, e3⟩ := h.at
  have ht : takesB o s = false := by unfold takesB; rw [hf, h8]; rfl
  have hs : sendF o s = s.c o.2.1.toNat := by unfold sendF sentF; rw [hf, if_neg (by decide), if_pos h8]
  have h0 : 0 ≤ s.c o.2.1.toNat := by
    have hr := (ok3_range h.ok).2.2
    have hb := (bA_le o.1).2
    have := (stOk_iff.1 h.st).2.2 o.2.1.toNat (by omega)
    exact this.1
  unfold turnK
  simp only [e1, e2, e3]
  unfold linesS cameK linesT gotK
  rw [ht, hs]
  simp only [Bool.false_eq_true, if_false, if_pos h0, List.getD, hl, Option.getD_some]
  have hw : whatF o s false = 1 := by unfold whatF; rw [hf, if_neg (by decide), if_pos h8]
  rw [hw]
  cases hfl : fitL l with
  | true => rw [if_neg (fun e => by cases e.2), if_pos rfl]
  | false => rw [if_pos ⟨h0, rfl⟩, if_neg (by decide)]
/-- It does none of these. -/
theorem turn_else {p : PD} {k : KD} {r : Nat} {c : List O3} {s : St} {o : O3} (h : Turn p k r c s o) (hf : s.f = false) (h8 : o.1 ≠ 8) (h9 : o.1 ≠ 9) :
    turnK p k r = (⟨k.rooms.set r (stepF o s c.length 0 false), k.lines, k.time + 1⟩, s.p, if o.1 = 11 then 4 else 0) := by
  obtain ⟨e1, e2, e3⟩ := h.at
  have ht : takesB o s = false := by unfold takesB; rw [hf]; simp [h9]
  have hs : sendF o s = -1 := by unfold sendF sentF; rw [hf, if_neg (by decide), if_neg h8]
  unfold turnK
  simp only [e1, e2, e3]
  unfold linesS cameK linesT gotK
  rw [ht, hs]
  simp only [Bool.false_eq_true, if_false, show ¬ ((0 : Int) ≤ -1) by omega, false_and]
  unfold whatF
  rw [hf, if_neg (by decide), if_neg h8, if_neg h9]
end Go.Proofs.YtlegpedmfpbaiaeDoor
namespace Go.Proofs.YtlegpedmfpbaiaeDoor
open Go.RowKit

/-- A state as a value. -/
def stA (s : St) : Value := .agg #[.int .i64 s.p, .int .i64 (s.c 0), .int .i64 (s.c 1), .int .i64 (s.c 2), .int .i64 (s.c 3), .int .i64 (s.c 4), .int .i64 (s.c 5), .bool s.f]
/-- An event as a value. -/
def evA (e : Int × Int × Int × Int) : Value := .agg #[.int .i64 e.1, .int .i64 e.2.1, .int .i64 e.2.2.1, .int .i64 e.2.2.2]
/-- A room of a kernel, and whether there is one. -/
def noRoom (k : KD) (r : Int) : Bool := decide (r < 0) || decide ((k.rooms.length : Int) ≤ r)
def roomK (k : KD) (r : Int) : St := if noRoom k r = true then stNew else k.rooms.getD r.toNat stNew
/-- A line of a kernel, and whether there is one. -/
def noLine (k : KD) (i : Int) : Bool := decide (i < 0) || decide ((k.lines.length : Int) ≤ i)
def lineK (k : KD) (i : Int) : LnD := if noLine k i = true then LnD.none else k.lines.getD i.toNat LnD.none
def errB (b : Bool) : Int := if b = true then 1 else 0
/-- What package kernel does, in every world of a kind: K w0 w p vc vs vw k kb F: made in the world w0, of the plan p that lay there, a kernel lies at block kb; it is k, and all that it has lies in the blocks F. -/
structure KerC (G : World → Prop) where
  K : World → World → PD → Value → Value → Value → KD → Nat → List Nat → Prop
  all : ∀ w w', G w → Below w.heap.size w w' → G w'
  since : ∀ {w0 w p vc vs vw k kb F}, K w0 w p vc vs vw k kb F → Below w0.heap.size w0 w
  ge : ∀ {w0 w p vc vs vw k kb F}, K w0 w p vc vs vw k kb F → ∀ g ∈ F, w0.heap.size ≤ g ∧ g < w.heap.size
  lower : ∀ {w1 w0 w p vc vs vw k kb F}, Below w1.heap.size w1 w0 → K w0 w p vc vs vw k kb F → K w1 w p vc vs vw k kb F
  frame : ∀ {w0 w w' p vc vs vw k kb F M}, K w0 w p vc vs vw k kb F → KTouch M w w' → (∀ m ∈ M, m ∉ F ∧ w0.heap.size ≤ m) → K w0 w' p vc vs vw k kb F
  new : ∀ (p : PD) (vc vs vw : Value) (W : World), G W → Pln W vc vs vw p → plchk p = 0 → Calls Tryd.prog 6 #[plV vc p.ticks vs vw] W fun e w' => ∃ kb F, e = .returned (.tuple #[.pointer (some ⟨kb, 0, none⟩), .nilIface]) ∧ K W w' p vc vs vw (newK p) kb F
  no : ∀ (p : PD) (vc vs vw : Value) (W : World), G W → Pln W vc vs vw p → plchk p ≠ 0 → Calls Tryd.prog 6 #[plV vc p.ticks vs vw] W fun e w' => ∃ x, e = .returned (.tuple #[.pointer x, wErr (plchk p)]) ∧ Below W.heap.size W w'
  tick : ∀ {w0 W p vc vs vw k kb F}, G w0 → K w0 W p vc vs vw k kb F → plchk p = 0 → KOk p k → k.time < 1000000 → Calls Tryd.prog 8 #[.pointer (some ⟨kb, 0, none⟩)] W fun e w' => e = .returned (evA (tickK p p.spans k).2) ∧ ∃ F', K w0 w' p vc vs vw (tickK p p.spans k).1 kb F' ∧ KTouch F W w' ∧ ∀ g ∈ F', g ∈ F ∨ W.heap.size ≤ g
  state : ∀ {w0 W p vc vs vw k kb F} (r : Int), K w0 W p vc vs vw k kb F → KOk p k → plchk p = 0 → Calls Tryd.prog 7 #[.pointer (some ⟨kb, 0, none⟩), .int .i64 r] W fun e w' => e = .returned (.tuple #[stA (roomK k r), wErr (errB (noRoom k r))]) ∧ Below W.heap.size W w'
end Go.Proofs.YtlegpedmfpbaiaeDoor
namespace Go.Proofs.YtlegpedmfpbaiaeDoor

/-- The code of a room that counts. -/
def cntC : List O3 := [(1, 1, 1), (3, 0, 1)]
/-- So many rooms that count. -/
def cntP (n : Nat) : PD := ⟨List.replicate n cntC, n, ones n, []⟩
theorem cntP_ok : ∀ n : Nat, n < 6 → 1 ≤ n → plchk (cntP n) = 0 := by decide +kernel
theorem cnt_hold : ∀ n : Nat, n < 6 → ∀ q : Nat, q < n → hold (ones n) (q : Int) = (q : Int) := by decide +kernel
/-- A room behind so many steps. -/
def cntS (j : Nat) : St := ⟨((j % 2 : Nat) : Int), fun i => if i = 0 then (((j / 2) % 1000 : Nat) : Int) else if i = 1 then (if j = 0 then 0 else 1) else 0, false⟩
theorem cntS_new : cntS 0 = stNew := by
  unfold cntS stNew
  congr 1
  funext i
  by_cases h0 : i = 0
  · simp [h0]
  · by_cases h1 : i = 1
    · simp [h1]
    · simp [h0, h1]
theorem cntS_even (j : Nat) (h : j % 2 = 0) : stepF (1, 1, 1) (cntS j) 2 0 false = cntS (j + 1) := by
  have h1 : (j + 1) % 2 = 1 := by omega
  have h2 : (j + 1) / 2 = j / 2 := by omega
  have hp : nextF (1, 1, 1) (cntS j) 2 false = (cntS (j + 1)).p := by unfold nextF; simp [cntS, h, h1]
  have hc : cellsF (1, 1, 1) (cntS j).c 0 false = (cntS (j + 1)).c := by
    funext i
    show upd (cntS j).c 1 1 i = _
    unfold upd cntS
    by_cases h0 : i = 0
    · subst h0; simp [h2]
    · by_cases h3 : i = 1
      · subst h3; simp
      · simp [h0, h3]
  unfold stepF
  rw [if_neg (by simp [cntS]), hp, hc]
  rfl
theorem cntS_odd (j : Nat) (h : j % 2 = 1) : stepF (3, 0, 1) (cntS j) 2 0 false = cntS (j + 1) := by
  have h1 : (j + 1) % 2 = 0 := by omega
  have h2 : (j + 1) / 2 = j / 2 + 1 := by omega
  have h3 : j ≠ 0 := by omega
  have hp : nextF (3, 0, 1) (cntS j) 2 false = (cntS (j + 1)).p := by unfold nextF; simp [cntS, h, h1]
  have hc : cellsF (3, 0, 1) (cntS j).c 0 false = (cntS (j + 1)).c := by
    funext i
    show upd (cntS j).c 0 (((cntS j).c 0 + (cntS j).c 1) % 1000) i = _
    unfold upd cntS
    by_cases h0 : i = 0
    · subst h0
      simp [h2, h3]
    · by_cases h4 : i = 1
      · subst h4; simp [h3]
      · simp [h0, h4]
  unfold stepF
  rw [if_neg (by simp [cntS]), hp, hc]
  rfl
/-- How many turns a room had. -/
def cntT (n r t : Nat) : Nat := (t + n - 1 - r) / n
theorem cntT_next {n r t : Nat} (hn : 0 < n) (hr : r < n) : cntT n r (t + 1) = if r = t % n then cntT n r t + 1 else cntT n r t := by
  unfold cntT
  have hd := Nat.div_add_mod t n
  have hm := Nat.mod_lt t hn
  generalize t / n = q at hd
  generalize t % n = m at hd hm
  subst hd
  split
  · rename_i h
    subst h
    rw [show n * q + r + 1 + n - 1 - r = n * (q + 1) by rw [Nat.mul_add]; omega, show n * q + r + n - 1 - r = n * q + (n - 1) by omega, Nat.mul_div_cancel_left _ hn, Nat.mul_add_div hn, Nat.div_eq_of_lt (by omega)]
  · rename_i h
    by_cases hlt : r < m
    · rw [show n * q + m + 1 + n - 1 - r = n * (q + 1) + (m - r) by rw [Nat.mul_add]; omega, show n * q + m + n - 1 - r = n * (q + 1) + (m - r - 1) by rw [Nat.mul_add]; omega, Nat.mul_add_div hn, Nat.mul_add_div hn, Nat.div_eq_of_lt (by omega), Nat.div_eq_of_lt (by omega)]
    · rw [show n * q + m + 1 + n - 1 - r = n * q + (m + n - r) by omega, show n * q + m + n - 1 - r = n * q + (m + n - r - 1) by omega, Nat.mul_add_div hn, Nat.mul_add_div hn, Nat.div_eq_of_lt (by omega), Nat.div_eq_of_lt (by omega)]
/-- All of it behind so many ticks. -/
def cntK (n t : Nat) : KD := ⟨(List.range n).map fun r => cntS (cntT n r t), [], t⟩
theorem cntK_new (n : Nat) : newK (cntP n) = cntK n 0 := by
  unfold newK cntK cntP
  simp only [List.map_replicate, List.map_nil, KD.mk.injEq, true_and]
  refine ⟨?_, rfl⟩
  apply List.ext_getElem?
  intro i
  by_cases hi : i < n
  · have : cntT n i 0 = 0 := by unfold cntT; exact Nat.div_eq_of_lt (by omega)
    simp [hi, this, cntS_new]
  · simp [hi]
theorem cntK_room {n t r : Nat} (hr : r < n) : (cntK n t).rooms[r]? = some (cntS (cntT n r t)) := by simp [cntK, hr]
theorem cntK_tick {n t : Nat} (hn : 0 < n) (h5 : n < 6) : (tickK (cntP n) (cntP n).spans (cntK n t)).1 = cntK n (t + 1) := by
  have hm := Nat.mod_lt t hn
  have hh : hold (cntP n).spans ((cntK n t).time % (cntP n).ticks) = ((t % n : Nat) : Int) := by
    show hold (ones n) ((t : Int) % (n : Int)) = _
    rw [show (t : Int) % (n : Int) = ((t % n : Nat) : Int) from rfl]
    exact cnt_hold n h5 _ hm
  unfold tickK
  simp only [hh]
  rw [if_neg (by omega), Int.toNat_natCast]
  generalize hq : t % n = q at hm
  unfold turnK
  have hc : (cntP n).code.getD q [] = cntC := by simp [cntP, List.getD, hm]
  have hs : (cntK n t).rooms.getD q stNew = cntS (cntT n q t) := by simp [List.getD, cntK_room hm]
  simp only [hc, hs]
  have hst : ∀ j, stepF (opAt cntC (cntS j)) (cntS j) cntC.length (gotK (cntK n t) (opAt cntC (cntS j)) (cntS j)).1 (gotK (cntK n t) (opAt cntC (cntS j)) (cntS j)).2 = cntS (j + 1) ∧ linesS (linesT (cntK n t) (opAt cntC (cntS j)) (cntS j)) (opAt cntC (cntS j)) (sendF (opAt cntC (cntS j)) (cntS j)) = [] := fun j => by
    rcases Nat.mod_two_eq_zero_or_one j with h | h
    · have ho : opAt cntC (cntS j) = (1, 1, 1) := by unfold opAt; simp [cntS, h, cntC]
      rw [ho]
      exact ⟨cntS_even j h, rfl⟩
    · have ho : opAt cntC (cntS j) = (3, 0, 1) := by unfold opAt; simp [cntS, h, cntC]
      rw [ho]
      exact ⟨cntS_odd j h, rfl⟩
  rw [(hst _).1, (hst _).2]
  unfold cntK
  simp only [KD.mk.injEq, true_and]
  refine ⟨?_, by simp⟩
  apply List.ext_getElem?
  intro i
  by_cases hi : i < n
  · rw [List.getElem?_set]
    simp only [List.length_map, List.length_range, List.getElem?_map, List.getElem?_range hi, Option.map_some]
    rw [cntT_next hn hi, hq]
    by_cases hqi : q = i
    · subst hqi
      simp [hm]
    · simp [hqi, Ne.symm hqi]
  · simp [hi]
theorem cntK_ok {n : Nat} (hn : 0 < n) (h5 : n < 6) : ∀ t, KOk (cntP n) (cntK n t)
  | 0 => by rw [← cntK_new n]; exact new_ok (cntP_ok n h5 hn)
  | t + 1 => by rw [← cntK_tick hn h5]; exact tick_ok (cntP_ok n h5 hn) (cntK_ok hn h5 t)
/-- Behind whole frames of their steps all have counted alike. -/
theorem cntT_whole {n r m : Nat} (hn : 0 < n) (hr : r < n) : cntT n r (2 * n * m) = 2 * m := by
  unfold cntT
  rw [show 2 * n * m + n - 1 - r = n * (2 * m) + (n - 1 - r) by rw [show 2 * n * m = n * (2 * m) by rw [Nat.mul_comm 2 n, Nat.mul_assoc]]; omega, Nat.mul_add_div hn, Nat.div_eq_of_lt (by omega)]
  omega
theorem cntS_whole {m : Nat} (hm : m ≤ 40) : (cntS (2 * m)).p = 0 ∧ (cntS (2 * m)).c 0 = (m : Int) := by
  unfold cntS
  refine ⟨?_, ?_⟩
  · show ((2 * m % 2 : Nat) : Int) = 0
    omega
  · show (((2 * m / 2) % 1000 : Nat) : Int) = m
    omega
end Go.Proofs.YtlegpedmfpbaiaeDoor
namespace Go.Proofs.YtlegpedmfpbaiaeDoor
open Go.RowKit

/-- A state's eight cells, written. -/
def setSt (w : World) (b o : Nat) (s : St) : World := (((((((w.setCell ⟨b, o, none⟩ (.int .i64 s.p)).setCell ⟨b, o + 1, none⟩ (.int .i64 (s.c 0))).setCell ⟨b, o + 2, none⟩ (.int .i64 (s.c 1))).setCell ⟨b, o + 3, none⟩ (.int .i64 (s.c 2))).setCell ⟨b, o + 4, none⟩ (.int .i64 (s.c 3))).setCell ⟨b, o + 5, none⟩ (.int .i64 (s.c 4))).setCell ⟨b, o + 6, none⟩ (.int .i64 (s.c 5))).setCell ⟨b, o + 7, none⟩ (.bool s.f)
theorem setSt_touch {M : List Nat} (w : World) {b : Nat} (hb : b ∈ M) (o : Nat) (s : St) : KTouch M w (setSt w b o s) :=
  (((((((KTouch.set w hb _ _).trans (KTouch.set _ hb _ _)).trans (KTouch.set _ hb _ _)).trans (KTouch.set _ hb _ _)).trans (KTouch.set _ hb _ _)).trans (KTouch.set _ hb _ _)).trans (KTouch.set _ hb _ _)).trans (KTouch.set _ hb _ _)
theorem setSt_frozen (w : World) (b o : Nat) (s : St) (a : Addr) : (setSt w b o s).frozen? a = w.frozen? a := by
  unfold setSt
  simp only [World.frozen?_setCell]
theorem setCell_far {w : World} {b i j : Nat} {v : Value} (h : i ≠ j) : (w.setCell ⟨b, j, none⟩ v).cell? ⟨b, i, none⟩ = w.cell? ⟨b, i, none⟩ :=
  World.cell?_setCell_other _ _ _ _ (fun e => by injection e with e1 e2; exact h e2.symm)
theorem setSt_off {w : World} {b o : Nat} {s : St} {i : Nat} (h : i < o ∨ o + 8 ≤ i) : (setSt w b o s).cell? ⟨b, i, none⟩ = w.cell? ⟨b, i, none⟩ := by
  unfold setSt
  rw [setCell_far (by omega), setCell_far (by omega), setCell_far (by omega), setCell_far (by omega), setCell_far (by omega), setCell_far (by omega), setCell_far (by omega), setCell_far (by omega)]
theorem setSt_at {w : World} {b o : Nat} {s s' : St} (h : StC w b o s) : StC (setSt w b o s') b o s' := by
  obtain ⟨h0, h1, h2, h3, h4, h5, h6, h7⟩ := h
  unfold setSt
  refine ⟨?_, ?_, ?_, ?_, ?_, ?_, ?_, ?_⟩ <;> simp [go_sem, h0, h1, h2, h3, h4, h5, h6, h7]
theorem StC.off {w w' : World} {b o : Nat} {s : St} (h : StC w b o s) (hc : ∀ i, o ≤ i → i < o + 8 → w'.cell? ⟨b, i, none⟩ = w.cell? ⟨b, i, none⟩) : StC w' b o s :=
  ⟨(hc _ (by omega) (by omega)).trans h.p, (hc _ (by omega) (by omega)).trans h.c0, (hc _ (by omega) (by omega)).trans h.c1, (hc _ (by omega) (by omega)).trans h.c2, (hc _ (by omega) (by omega)).trans h.c3, (hc _ (by omega) (by omega)).trans h.c4, (hc _ (by omega) (by omega)).trans h.c5, (hc _ (by omega) (by omega)).trans h.f⟩
theorem StC.poke {w : World} {b o : Nat} {s : St} (h : StC w b o s) {c : Nat} (hc : c ≤ 5) (n : Int) : StC (w.setCell ⟨b, o + 1 + c, none⟩ (.int .i64 n)) b o (pokeS s c n) := by
  obtain ⟨h0, h1, h2, h3, h4, h5, h6, h7⟩ := h
  match c, hc with
  | 0, _ => refine ⟨?_, ?_, ?_, ?_, ?_, ?_, ?_, ?_⟩ <;> simp [go_sem, pokeS, h0, h1, h2, h3, h4, h5, h6, h7]
  | 1, _ => refine ⟨?_, ?_, ?_, ?_, ?_, ?_, ?_, ?_⟩ <;> simp [go_sem, pokeS, h0, h1, h2, h3, h4, h5, h6, h7]
  | 2, _ => refine ⟨?_, ?_, ?_, ?_, ?_, ?_, ?_, ?_⟩ <;> simp [go_sem, pokeS, h0, h1, h2, h3, h4, h5, h6, h7]
  | 3, _ => refine ⟨?_, ?_, ?_, ?_, ?_, ?_, ?_, ?_⟩ <;> simp [go_sem, pokeS, h0, h1, h2, h3, h4, h5, h6, h7]
  | 4, _ => refine ⟨?_, ?_, ?_, ?_, ?_, ?_, ?_, ?_⟩ <;> simp [go_sem, pokeS, h0, h1, h2, h3, h4, h5, h6, h7]
  | 5, _ => refine ⟨?_, ?_, ?_, ?_, ?_, ?_, ?_, ?_⟩ <;> simp [go_sem, pokeS, h0, h1, h2, h3, h4, h5, h6, h7]
/-- An event in its box. -/
def EvB (W : World) (b : Nat) (t r a q : Int) : Prop := W.heap[b]? = some (.cells #[.int .i64 t, .int .i64 r, .int .i64 a, .int .i64 q] 44 (0, 0))
theorem EvB.lt {W : World} {b : Nat} {t r a q : Int} (h : EvB W b t r a q) : b < W.heap.size := (Array.getElem?_eq_some_iff.1 h).1
theorem EvB.cs {W : World} {b : Nat} {t r a q : Int} (h : EvB W b t r a q) : W.cell? ⟨b, 0, none⟩ = some (.int .i64 t) ∧ W.cell? ⟨b, 1, none⟩ = some (.int .i64 r) ∧ W.cell? ⟨b, 2, none⟩ = some (.int .i64 a) ∧ W.cell? ⟨b, 3, none⟩ = some (.int .i64 q) := by
  have e : W.heap[b]? = _ := h
  simp [World.cell?, e]
theorem EvB.fs {W : World} {b : Nat} {t r a q : Int} (h : EvB W b t r a q) : W.frozen? ⟨b, 0, none⟩ = false ∧ W.frozen? ⟨b, 1, none⟩ = false ∧ W.frozen? ⟨b, 2, none⟩ = false ∧ W.frozen? ⟨b, 3, none⟩ = false := by
  have e : W.heap[b]? = _ := h
  simp [World.frozen?, e]
theorem EvB.set {W : World} {b : Nat} {t r a q : Int} (h : EvB W b t r a q) (t' r' a' q' : Int) : EvB ((((W.setCell ⟨b, 0, none⟩ (.int .i64 t')).setCell ⟨b, 1, none⟩ (.int .i64 r')).setCell ⟨b, 2, none⟩ (.int .i64 a')).setCell ⟨b, 3, none⟩ (.int .i64 q')) b t' r' a' q' := by
  have e : W.heap[b]? = _ := h
  unfold EvB
  simp [World.setCell, Array.getElem?_modify, e]
theorem EvB.at {W : World} {b : Nat} {t r a q : Int} (h : EvB W b t r a q) (a' : Int) : EvB (W.setCell ⟨b, 2, none⟩ (.int .i64 a')) b t r a' q := by
  have e : W.heap[b]? = _ := h
  unfold EvB
  simp [World.setCell, Array.getElem?_modify, e]
theorem EvB.what {W : World} {b : Nat} {t r a q : Int} (h : EvB W b t r a q) (q' : Int) : EvB (W.setCell ⟨b, 3, none⟩ (.int .i64 q')) b t r a q' := by
  have e : W.heap[b]? = _ := h
  unfold EvB
  simp [World.setCell, Array.getElem?_modify, e]
/-- A state in its box. -/
def StB (W : World) (b : Nat) (s : St) : Prop := W.heap[b]? = some (.cells #[.int .i64 s.p, .int .i64 (s.c 0), .int .i64 (s.c 1), .int .i64 (s.c 2), .int .i64 (s.c 3), .int .i64 (s.c 4), .int .i64 (s.c 5), .bool s.f] 35 (0, 0))
theorem StB.cs {W : World} {b : Nat} {s : St} (h : StB W b s) : StC W b 0 s := by
  have e : W.heap[b]? = _ := h
  refine ⟨?_, ?_, ?_, ?_, ?_, ?_, ?_, ?_⟩ <;> simp [World.cell?, e]
/-- Both boxes of a tick, the result's and its own. -/
structure Ev (w W : World) (e2 : Nat) (t r a q : Int) : Prop where
  res : EvB W w.heap.size 0 0 0 0
  own : EvB W e2 t r a q
  ne : e2 ≠ w.heap.size
  ge : w.heap.size ≤ e2
/-- The box laid ahead of the call. -/
theorem ev_box {w w1 : World} (b1 : Below (((w.alloc (.cells #[.int .i64 0, .int .i64 0, .int .i64 0, .int .i64 0] 44)).alloc (.cells #[.int .i64 0, .int .i64 0, .int .i64 0, .int .i64 0] 44)).drew).heap.size (((w.alloc (.cells #[.int .i64 0, .int .i64 0, .int .i64 0, .int .i64 0] 44)).alloc (.cells #[.int .i64 0, .int .i64 0, .int .i64 0, .int .i64 0] 44)).drew) w1) :
    (w1.cell? ⟨w.heap.size + 1, 0, none⟩ = some (.int .i64 0) ∧ w1.cell? ⟨w.heap.size + 1, 1, none⟩ = some (.int .i64 0) ∧ w1.cell? ⟨w.heap.size + 1, 2, none⟩ = some (.int .i64 0) ∧ w1.cell? ⟨w.heap.size + 1, 3, none⟩ = some (.int .i64 0)) ∧ w1.frozen? ⟨w.heap.size + 1, 0, none⟩ = false ∧ w1.frozen? ⟨w.heap.size + 1, 1, none⟩ = false ∧ w1.frozen? ⟨w.heap.size + 1, 2, none⟩ = false ∧ w1.frozen? ⟨w.heap.size + 1, 3, none⟩ = false := by
  have hc := fun o => b1.cell (p := ⟨w.heap.size + 1, o, none⟩) (by simp)
  have hf := fun o => b1.frozen (p := ⟨w.heap.size + 1, o, none⟩) (by simp)
  exact ⟨⟨(hc 0).trans (by simp), (hc 1).trans (by simp), (hc 2).trans (by simp), (hc 3).trans (by simp)⟩, (hf 0).trans (by simp), (hf 1).trans (by simp), (hf 2).trans (by simp), (hf 3).trans (by simp)⟩
/-- The cells of a state are there, and may be written. -/
theorem there_st {W : World} {b o : Nat} {s : St} (h : StC W b o s) (hf : ∀ i, W.frozen? ⟨b, i, none⟩ = false) (nq : Nat) : (W.drewN nq).there b o 8 := by
  obtain ⟨s0, s1, s2, s3, s4, s5, s6, s7⟩ := h
  intro j hj
  have hb : Below W.heap.size W (W.drewN nq) := below_dN (Below.refl _ _) nq
  have hlt : b < W.heap.size := World.block_lt_of_cell? W _ s0
  rw [hb.cell (p := ⟨b, o + j, none⟩) hlt, hb.frozen (p := ⟨b, o + j, none⟩) hlt]
  refine ⟨?_, hf _⟩
  match j, hj with
  | 0, _ => rw [Nat.add_zero, s0]; rfl
  | 1, _ => rw [s1]; rfl
  | 2, _ => rw [s2]; rfl
  | 3, _ => rw [s3]; rfl
  | 4, _ => rw [s4]; rfl
  | 5, _ => rw [s5]; rfl
  | 6, _ => rw [s6]; rfl
  | 7, _ => rw [s7]; rfl
end Go.Proofs.YtlegpedmfpbaiaeDoor
namespace Go.Proofs.YtlegpedmfpbaiaeDoor
open Go.ChangeShapes Go.WideShapes Go.ChangeAt Go.WideElems Go.RowKit Go.Deep

theorem pk_spot {W : World} {a : Addr} {v : Value} (h : W.cell? a = some v) : a = ⟨a.block, a.off, none⟩ ∧ a.block < W.heap.size := by
  obtain ⟨b, o, s⟩ := a
  unfold World.cell? at h
  simp only at h
  cases hb : W.heap[b]? with
  | none => rw [hb] at h; cases h
  | some x =>
    rw [hb] at h
    refine ⟨?_, (Array.getElem?_eq_some_iff.1 hb).1⟩
    cases x <;> simp at h
    cases s with
    | none => rfl
    | some s => simp at h
theorem pk_lt {α : Type} [Inhabited α] {p : Nat → α → Prop} {n : Nat} (h : ∀ i, i < n → ∃ x, p i x) : ∃ f : Nat → α, ∀ i, i < n → p i (f i) := by
  refine ⟨fun i => if hi : i < n then (h i hi).choose else default, fun i hi => ?_⟩
  simp only [hi, dif_pos]
  exact (h i hi).choose_spec
/-- A slice read as data, at the level of its cell. -/
theorem pk_slice {α : Type} [Inhabited α] {H : Type} {enc : TypeId × Value → H} {P : Program} {W : World} {base : Nat} {sp : Nat → Bool} {held : Bool} {fuel : Nat} {cs : List Value} {x : DataW H × List MemPlace} {t e : TypeId} {k : Nat}
    (ht : P.underlying t = some (.slice e)) (hk : P.cellsOf e = k) (hk0 : 0 < k) (R : List Value → α → Prop)
    (hel : ∀ (n : Nat) (cs : List Value) (x : DataW H × List MemPlace), DataW.trod enc P W base sp held n e cs = some x → ∃ o, R cs o)
    (h : DataW.trod enc P W base sp held fuel t cs = some x) :
    ∃ a len cap, cs = [.slice a len cap] ∧ (len = 0 ∨ ∃ b off, a = some ⟨b, off, none⟩ ∧ len ≤ cap ∧ b < W.heap.size ∧ ∃ l : List α, l.length = len ∧ ∀ i o, l[i]? = some o → ∃ us, us.length = k ∧ R us o ∧ ∀ j, j < k → W.cell? ⟨b, off + i * k + j, none⟩ = us[j]?) := by
  rcases open_slice ht h with ⟨rfl, _⟩ | ⟨a, len, cap, m, n, D, Pl, rfl, _, hl, _, hm, _, he⟩
  · exact ⟨none, 0, 0, rfl, Or.inl rfl⟩
  · refine ⟨some a, len, cap, rfl, ?_⟩
    have hlm : len ≤ m := by rw [hm]; split <;> omega
    by_cases h0 : len = 0
    · exact Or.inl h0
    · rw [hk] at he
      obtain ⟨F, hF⟩ := pk_lt (α := α × List Value) (p := fun i o => o.2.length = k ∧ R o.2 o.1 ∧ ∀ j, j < k → W.cell? ((a.add (i * k)).add j) = o.2[j]?) (n := len) (fun i hi => by
        obtain ⟨us, h1, h2⟩ := he i (by omega)
        obtain ⟨o, ho⟩ := hel _ _ _ h2
        obtain ⟨_, h3, h4⟩ := World.cells?_some h1
        exact ⟨(o, us), h3, ho, h4⟩)
      obtain ⟨l0, _, c0⟩ := hF 0 (by omega)
      have hz := c0 0 hk0
      rw [show (a.add (0 * k)).add 0 = a from by simp [Addr.add], List.getElem?_eq_getElem (by omega)] at hz
      obtain ⟨ha, hlt⟩ := pk_spot hz
      refine Or.inr ⟨a.block, a.off, by rw [← ha], hl, hlt, (List.range len).map (fun i => (F i).1), by simp, fun i o ho => ?_⟩
      have hi : i < len := by
        have := (List.getElem?_eq_some_iff.1 ho).1
        simpa using this
      have hoi : (F i).1 = o := by simpa [hi] using ho
      obtain ⟨h1, h2, h3⟩ := hF i hi
      refine ⟨(F i).2, h1, hoi ▸ h2, fun j hj => ?_⟩
      have := h3 j hj
      rw [ha] at this
      simp only [Addr.add_lit] at this
      exact this
theorem pcInt : Tryd.prog.cellsOf 3 = 1 := by kernel_rfl
theorem pcOp : Tryd.prog.cellsOf 47 = 3 := by kernel_rfl
theorem pcSpan : Tryd.prog.cellsOf 50 = 3 := by kernel_rfl
theorem pcWire : Tryd.prog.cellsOf 59 = 4 := by kernel_rfl
theorem pcOps : Tryd.prog.cellsOf 48 = 1 := by kernel_rfl
section
variable {H : Type} {enc : TypeId × Value → H} {W : World} {base : Nat} {sp : Nat → Bool} {held : Bool}
set_option maxRecDepth 100000 in
theorem pk_op (n : Nat) (cs : List Value) (x : DataW H × List MemPlace) (h : DataW.trod enc Tryd.prog W base sp held n 47 cs = some x) : ∃ o : O3, cs = [.int .i64 o.1, .int .i64 o.2.1, .int .i64 o.2.2] := by
  obtain ⟨y0, y1, y2, n, _, hl, h0, h1, h2⟩ := trod_struct3 Tryd.underlying47 h
  rw [pcOp] at hl
  match cs, hl with
  | [c0, c1, c2], _ =>
    simp only [pcInt] at h0 h1 h2
    simp at h0 h1 h2
    obtain ⟨n, e0, _, _⟩ := DataW.trod_int Tryd.underlying3 h0
    obtain ⟨a, e1, _, _⟩ := DataW.trod_int Tryd.underlying3 h1
    obtain ⟨b, e2, _, _⟩ := DataW.trod_int Tryd.underlying3 h2
    simp only [List.cons.injEq, and_true] at e0 e1 e2
    subst e0; subst e1; subst e2
    exact ⟨(n, a, b), rfl⟩
set_option maxRecDepth 100000 in
theorem pk_span (n : Nat) (cs : List Value) (x : DataW H × List MemPlace) (h : DataW.trod enc Tryd.prog W base sp held n 50 cs = some x) : ∃ o : S3, cs = [.int .i64 o.1, .int .i64 o.2.1, .int .i64 o.2.2] := by
  obtain ⟨y0, y1, y2, n, _, hl, h0, h1, h2⟩ := trod_struct3 Tryd.underlying50 h
  rw [pcSpan] at hl
  match cs, hl with
  | [c0, c1, c2], _ =>
    simp only [pcInt] at h0 h1 h2
    simp at h0 h1 h2
    obtain ⟨n, e0, _, _⟩ := DataW.trod_int Tryd.underlying3 h0
    obtain ⟨a, e1, _, _⟩ := DataW.trod_int Tryd.underlying3 h1
    obtain ⟨b, e2, _, _⟩ := DataW.trod_int Tryd.underlying3 h2
    simp only [List.cons.injEq, and_true] at e0 e1 e2
    subst e0; subst e1; subst e2
    exact ⟨(n, a, b), rfl⟩
set_option maxRecDepth 100000 in
theorem pk_wire (n : Nat) (cs : List Value) (x : DataW H × List MemPlace) (h : DataW.trod enc Tryd.prog W base sp held n 59 cs = some x) : ∃ o : W4, cs = [.int .i64 o.1, .int .i64 o.2.1, .int .i64 o.2.2.1, .int .i64 o.2.2.2] := by
  obtain ⟨y0, y1, y2, y3, n, _, hl, h0, h1, h2, h3⟩ := Joins.trod_struct4 Tryd.underlying59 h
  rw [pcWire] at hl
  match cs, hl with
  | [c0, c1, c2, c3], _ =>
    simp only [pcInt] at h0 h1 h2 h3
    simp at h0 h1 h2 h3
    obtain ⟨n, e0, _, _⟩ := DataW.trod_int Tryd.underlying3 h0
    obtain ⟨a, e1, _, _⟩ := DataW.trod_int Tryd.underlying3 h1
    obtain ⟨b, e2, _, _⟩ := DataW.trod_int Tryd.underlying3 h2
    obtain ⟨c, e3, _, _⟩ := DataW.trod_int Tryd.underlying3 h3
    simp only [List.cons.injEq, and_true] at e0 e1 e2 e3
    subst e0; subst e1; subst e2; subst e3
    exact ⟨(n, a, b, c), rfl⟩
theorem pk_ops (n : Nat) (cs : List Value) (x : DataW H × List MemPlace) (h : DataW.trod enc Tryd.prog W base sp held n 48 cs = some x) : ∃ l : List O3, ∃ u, cs = [u] ∧ Ops W u l := by
  obtain ⟨a, len, cap, rfl, hr⟩ := pk_slice (α := O3) Tryd.underlying48 pcOp (by decide) (fun cs o => cs = [.int .i64 o.1, .int .i64 o.2.1, .int .i64 o.2.2]) pk_op h
  rcases hr with rfl | ⟨b, off, rfl, _, hlt, l, rfl, hl⟩
  · exact ⟨[], _, rfl, Or.inl ⟨rfl, _, _, rfl⟩⟩
  · refine ⟨l, _, rfl, Or.inr ⟨b, off, cap, rfl, hlt, fun i o ho => ?_⟩⟩
    obtain ⟨us, _, rfl, hc⟩ := hl i o ho
    exact ⟨hc 0 (by omega), hc 1 (by omega), hc 2 (by omega)⟩
theorem pk_sps (n : Nat) (cs : List Value) (x : DataW H × List MemPlace) (h : DataW.trod enc Tryd.prog W base sp held n 23 cs = some x) : ∃ l : List S3, ∃ u, cs = [u] ∧ Sps W u l := by
  obtain ⟨a, len, cap, rfl, hr⟩ := pk_slice (α := S3) Tryd.underlying23 pcSpan (by decide) (fun cs o => cs = [.int .i64 o.1, .int .i64 o.2.1, .int .i64 o.2.2]) pk_span h
  rcases hr with rfl | ⟨b, off, rfl, hcap, hlt, l, rfl, hl⟩
  · exact ⟨[], _, rfl, Or.inl ⟨rfl, _, _, rfl⟩⟩
  · refine ⟨l, _, rfl, Or.inr ⟨b, off, cap, rfl, hcap, hlt, fun i o ho => ?_⟩⟩
    obtain ⟨us, _, rfl, hc⟩ := hl i o ho
    exact ⟨hc 0 (by omega), hc 1 (by omega), hc 2 (by omega)⟩
theorem pk_wrs (n : Nat) (cs : List Value) (x : DataW H × List MemPlace) (h : DataW.trod enc Tryd.prog W base sp held n 24 cs = some x) : ∃ l : List W4, ∃ u, cs = [u] ∧ Wrs W u l := by
  obtain ⟨a, len, cap, rfl, hr⟩ := pk_slice (α := W4) Tryd.underlying24 pcWire (by decide) (fun cs o => cs = [.int .i64 o.1, .int .i64 o.2.1, .int .i64 o.2.2.1, .int .i64 o.2.2.2]) pk_wire h
  rcases hr with rfl | ⟨b, off, rfl, hcap, hlt, l, rfl, hl⟩
  · exact ⟨[], _, rfl, Or.inl ⟨rfl, _, _, rfl⟩⟩
  · refine ⟨l, _, rfl, Or.inr ⟨b, off, cap, rfl, hcap, hlt, fun i o ho => ?_⟩⟩
    obtain ⟨us, _, rfl, hc⟩ := hl i o ho
    exact ⟨hc 0 (by omega), hc 1 (by omega), hc 2 (by omega), hc 3 (by omega)⟩
theorem pk_cds (n : Nat) (cs : List Value) (x : DataW H × List MemPlace) (h : DataW.trod enc Tryd.prog W base sp held n 22 cs = some x) : ∃ l : List (List O3), ∃ u, cs = [u] ∧ Cds W u l := by
  obtain ⟨a, len, cap, rfl, hr⟩ := pk_slice (α := List O3) Tryd.underlying22 pcOps (by decide) (fun cs l => ∃ u, cs = [u] ∧ Ops W u l) pk_ops h
  rcases hr with rfl | ⟨b, off, rfl, hcap, hlt, l, rfl, hl⟩
  · exact ⟨[], _, rfl, Or.inl ⟨rfl, _, _, rfl⟩⟩
  · refine ⟨l, _, rfl, Or.inr ⟨b, off, cap, rfl, hcap, hlt, fun i c hc => ?_⟩⟩
    obtain ⟨us, _, ⟨u, rfl, hu⟩, hc⟩ := hl i c hc
    have := hc 0 (by omega)
    exact ⟨u, by simpa using this, hu⟩
set_option maxRecDepth 100000 in
/-- A plan that came in. -/
theorem open_plan {b0 : Nat} {r : Reach} {v : Value} {d : DataW H} {p : List MemPlace} (hv : Value.okWide Tryd.prog W r b0 26 v)
    (h : DataW.Trod enc Tryd.prog W base sp held 26 v d p) : ∃ (vc vs vw : Value) (p : PD), v = plV vc p.ticks vs vw ∧ Pln W vc vs vw p := by
  obtain ⟨v0, v1, v2, v3, y0, y1, y2, y3, m, rfl, _, _, h0, h1, h2, h3⟩ := Joins.open_agg4 Tryd.underlying26 (by kernel_rfl) (by kernel_rfl) hv h
  obtain ⟨cs, u0, e0, g0⟩ := pk_cds _ _ _ h0
  obtain ⟨n, e1, _, _⟩ := DataW.trod_int Tryd.underlying3 h1
  obtain ⟨ss, u2, e2, g2⟩ := pk_sps _ _ _ h2
  obtain ⟨ws, u3, e3, g3⟩ := pk_wrs _ _ _ h3
  simp only [List.cons.injEq, and_true] at e0 e1 e2 e3
  subst e0; subst e1; subst e2; subst e3
  exact ⟨_, _, _, ⟨cs, n, ss, ws⟩, rfl, g0, g2, g3⟩
end
end Go.Proofs.YtlegpedmfpbaiaeDoor
namespace Go.Proofs.YtlegpedmfpbaiaeDoor

/-- A wire that leads to a room, or comes from it. -/
def atR (r : Int) (l : LnD) : Bool := decide (l.w.1 = r) || decide (l.w.2.1 = r)
/-- What a room sees of a kernel's lines. -/
def seesK (k : KD) (r : Int) : List (List Int × Int) := (k.lines.filter (atR r)).map fun l => (l.xs, l.ls)
/-- A room's states ahead of each of n ticks, and behind the last one. -/
def statesK (p : PD) (n r : Nat) : List St := (List.range (n + 1)).map fun t => (kT p t).rooms.getD r stNew
theorem statesK_len (p : PD) (n r : Nat) : (statesK p n r).length = n + 1 := by simp [statesK]
theorem statesK_zero (p : PD) (r : Nat) : statesK p 0 r = [(newK p).rooms.getD r stNew] := by simp [statesK, kT]
theorem statesK_succ (p : PD) (n r : Nat) : statesK p (n + 1) r = statesK p n r ++ [(kT p (n + 1)).rooms.getD r stNew] := by
  unfold statesK
  rw [List.range_succ, List.map_append]
  rfl
theorem statesK_first (p : PD) (n r : Nat) : (statesK p n r)[0]? = some stNew := by
  have h : (newK p).rooms.getD r stNew = stNew := by
    unfold newK
    simp only [List.getD, List.getElem?_map]
    cases p.code[r]? <;> rfl
  rw [← h]
  simp [statesK, kT]
/-- What is wrong with a run. -/
def runE (p : PD) (n r : Int) : Int := if plchk p = 0 then (if r < 0 ∨ (p.code.length : Int) ≤ r ∨ n < 0 ∨ 2000 < n then 1 else 0) else plchk p
/-- Two states that look the same. -/
structure StSame (s t : St) : Prop where
  p : s.p = t.p
  c : ∀ i, i < 6 → s.c i = t.c i
  f : s.f = t.f
theorem StSame.refl (s : St) : StSame s s := ⟨rfl, fun _ _ => rfl, rfl⟩
theorem cells_same {o : O3} {c d : Nat → Int} {g : Int} {b : Bool} (h : ∀ i, i < 6 → c i = d i) (hA : o.2.1.toNat < 6) (hB : o.1 = 2 ∨ o.1 = 3 ∨ o.1 = 4 ∨ o.1 = 5 → o.2.2.toNat < 6) : ∀ i, i < 6 → cellsF o c g b i = cellsF o d g b i := fun i hi => by
  have hu : ∀ v, upd c o.2.1.toNat v i = upd d o.2.1.toNat v i := fun v => by
    unfold upd
    split
    · rfl
    · exact h i hi
  unfold cellsF
  split
  · exact hu _
  split
  · rename_i h2; rw [h _ (hB (by omega))]; exact hu _
  split
  · rename_i h3; rw [h _ hA, h _ (hB (by omega))]; exact hu _
  split
  · rename_i h4; rw [h _ hA, h _ (hB (by omega))]; exact hu _
  split
  · rename_i h5; rw [h _ hA, h _ (hB (by omega))]; exact hu _
  split
  · split
    · exact hu _
    · exact h i hi
  · exact h i hi
theorem step_same {o : O3} {s t : St} {n : Nat} {g : Int} {b : Bool} (h : StSame s t) (hA : o.2.1.toNat < 6) (hB : o.1 = 2 ∨ o.1 = 3 ∨ o.1 = 4 ∨ o.1 = 5 → o.2.2.toNat < 6) : StSame (stepF o s n g b) (stepF o t n g b) := by
  unfold stepF
  rw [← h.f]
  split
  · exact h
  · refine ⟨?_, cells_same h.c hA hB, rfl⟩
    show nextF o s n b = nextF o t n b
    unfold nextF
    rw [h.p, h.c _ hA]
theorem small_args {p : PD} {k : KD} {r : Nat} {c : List O3} {s : St} {o : O3} (h : Turn p k r c s o) : o.2.1.toNat < 6 ∧ (o.1 = 2 ∨ o.1 = 3 ∨ o.1 = 4 ∨ o.1 = 5 → o.2.2.toNat < 6) := by
  have hr := ok3_range h.ok
  have hb := (bA_le o.1).2
  refine ⟨by omega, fun hh => ?_⟩
  rcases hh with e | e | e | e <;> simp [e, bB] at hr <;> omega
/-- One turn of a room that sees the same. -/
theorem turn_same {p : PD} {k m : KD} {r : Nat} {c : List O3} {s t : St} {o : O3} (hk : Turn p k r c s o) (hm : Turn p m r c t o) (hs : StSame s t) (hl : o.1 = 8 ∨ o.1 = 9 → ∃ l, k.lines[o.2.2.toNat]? = some l ∧ m.lines[o.2.2.toNat]? = some l) (hrk : r < k.rooms.length) (hrm : r < m.rooms.length) :
    (turnK p k r).2 = (turnK p m r).2 ∧ ∃ s' t', (turnK p k r).1.rooms[r]? = some s' ∧ (turnK p m r).1.rooms[r]? = some t' ∧ StSame s' t' := by
  obtain ⟨hA, hB⟩ := small_args hk
  have hst : ∀ g b, StSame (stepF o s c.length g b) (stepF o t c.length g b) := fun g b => step_same hs hA hB
  cases hf : s.f with
  | true =>
    have hf' : t.f = true := by rw [← hs.f]; exact hf
    rw [turn_failed hk hf, turn_failed hm hf']
    exact ⟨by rw [hs.p], s, t, hk.hs, hm.hs, hs⟩
  | false =>
    have hf' : t.f = false := by rw [← hs.f]; exact hf
    by_cases h9 : o.1 = 9
    · obtain ⟨l, h1, h2⟩ := hl (Or.inr h9)
      cases hh : (headL l).2 with
      | true =>
        rw [turn_takes hk hf h9 h1 hh, turn_takes hm hf' h9 h2 hh]
        exact ⟨by rw [hs.p], _, _, List.getElem?_set_self hrk, List.getElem?_set_self hrm, hst _ _⟩
      | false =>
        rw [turn_waits hk hf h9 h1 hh, turn_waits hm hf' h9 h2 hh]
        exact ⟨by rw [hs.p], _, _, List.getElem?_set_self hrk, List.getElem?_set_self hrm, hst _ _⟩
    · by_cases h8 : o.1 = 8
      · obtain ⟨l, h1, h2⟩ := hl (Or.inl h8)
        rw [turn_sends hk hf h8 h1, turn_sends hm hf' h8 h2]
        exact ⟨by rw [hs.p], _, _, List.getElem?_set_self hrk, List.getElem?_set_self hrm, hst _ _⟩
      · rw [turn_else hk hf h8 h9, turn_else hm hf' h8 h9]
        exact ⟨by rw [hs.p], _, _, List.getElem?_set_self hrk, List.getElem?_set_self hrm, hst _ _⟩
/-- What is seen the same is the same line. -/
theorem sees_line : ∀ {ls ms : List LnD} {ws : List W4} {r : Int}, ls.length = ws.length → ms.length = ws.length → (∀ (i : Nat) l x, ls[i]? = some l → ws[i]? = some x → l.w = x) → (∀ (i : Nat) l x, ms[i]? = some l → ws[i]? = some x → l.w = x) →
    ((ls.filter (atR r)).map fun l => (l.xs, l.ls)) = ((ms.filter (atR r)).map fun l => (l.xs, l.ls)) → ∀ (i : Nat) x, ws[i]? = some x → x.1 = r ∨ x.2.1 = r → ls[i]? = ms[i]?
  | [], [], _, _, _, _, _, _, _, i, x, _, _ => by simp
  | [], _ :: _, ws, _, h1, h2, _, _, _, _, _, _, _ => by simp at h1 h2; omega
  | _ :: _, [], ws, _, h1, h2, _, _, _, _, _, _, _ => by simp at h1 h2; omega
  | l :: ls, m :: ms, [], _, h1, _, _, _, _, _, _, _, _ => by simp at h1
  | l :: ls, m :: ms, y :: ws, r, h1, h2, h3, h4, h5, i, x, hx, hr => by
    have e1 : l.w = y := h3 0 l y rfl rfl
    have e2 : m.w = y := h4 0 m y rfl rfl
    have ea : atR r m = atR r l := by unfold atR; rw [e1, e2]
    have rest : ((ls.filter (atR r)).map fun l => (l.xs, l.ls)) = ((ms.filter (atR r)).map fun l => (l.xs, l.ls)) ∧ (atR r l = true → l = m) := by
      cases hb : atR r l with
      | true =>
        rw [List.filter_cons_of_pos (by exact hb), List.filter_cons_of_pos (by rw [ea]; exact hb)] at h5
        simp only [List.map_cons, List.cons.injEq, Prod.mk.injEq] at h5
        refine ⟨h5.2, fun _ => ?_⟩
        obtain ⟨lw, lx, ll⟩ := l
        obtain ⟨mw, mx, ml⟩ := m
        simp only at e1 e2 h5
        rw [e1, e2, h5.1.1, h5.1.2]
      | false =>
        rw [List.filter_cons_of_neg (by rw [hb]; decide), List.filter_cons_of_neg (by rw [ea, hb]; decide)] at h5
        exact ⟨h5, fun h => by cases h⟩
    cases i with
    | zero =>
      simp only [List.getElem?_cons_zero, Option.some.injEq] at hx ⊢
      subst hx
      refine rest.2 ?_
      unfold atR
      rw [e1]
      rcases hr with hr | hr <;> simp [hr]
    | succ i =>
      simp only [List.getElem?_cons_succ] at hx ⊢
      exact sees_line (by simpa using h1) (by simpa using h2) (fun j l' x' hl hx => h3 (j + 1) l' x' (by simpa using hl) (by simpa using hx)) (fun j l' x' hl hx => h4 (j + 1) l' x' (by simpa using hl) (by simpa using hx)) rest.1 i x hx hr
/-- WHO SEES THE SAME DOES THE SAME: one tick. -/
theorem tick_same {p : PD} {k m : KD} (hp : plchk p = 0) (hk : KOk p k) (hm : KOk p m) (ht : k.time = m.time) {r : Nat} (hr : r < p.code.length) {s t : St} (hs : k.rooms[r]? = some s) (htt : m.rooms[r]? = some t) (hst : StSame s t) (hsee : seesK k r = seesK m r) :
    (tickK p p.spans k).2.2.1 = (tickK p p.spans m).2.2.1 ∧ ((tickK p p.spans k).2.2.1 = (r : Int) → (tickK p p.spans k).2 = (tickK p p.spans m).2 ∧ ∃ s' t', (tickK p p.spans k).1.rooms[r]? = some s' ∧ (tickK p p.spans m).1.rooms[r]? = some t' ∧ StSame s' t') := by
  have ew : whoK p k = whoK p m := by unfold whoK; rw [ht]
  refine ⟨by rw [(tick_told p k).2, (tick_told p m).2, ew], fun hw => ?_⟩
  rw [(tick_told p k).2] at hw
  have hwm : whoK p m = r := by rw [← ew]; exact hw
  have e1 : tickK p p.spans k = ((turnK p k r).1, k.time, (r : Int), (turnK p k r).2.1, (turnK p k r).2.2) := by
    unfold whoK at hw
    unfold tickK
    simp only [hw]
    rw [if_neg (by omega), Int.toNat_natCast]
  have e2 : tickK p p.spans m = ((turnK p m r).1, m.time, (r : Int), (turnK p m r).2.1, (turnK p m r).2.2) := by
    unfold whoK at hwm
    unfold tickK
    simp only [hwm]
    rw [if_neg (by omega), Int.toNat_natCast]
  obtain ⟨c, s0, o, tk⟩ := turn_of hp hk hr
  obtain rfl : s = s0 := Option.some.inj (hs.symm.trans tk.hs)
  have tm : Turn p m r c t o := ⟨tk.hc, htt, by rw [← hst.p]; exact tk.ho, tk.ck, hm.rooms r c t tk.hc htt, tk.ok⟩
  have hl : o.1 = 8 ∨ o.1 = 9 → ∃ l, k.lines[o.2.2.toNat]? = some l ∧ m.lines[o.2.2.toNat]? = some l := fun ho => by
    have hx : ∃ x, p.wires[o.2.2.toNat]? = some x ∧ (x.1 = (r : Int) ∨ x.2.1 = (r : Int)) := by
      have := op_wire hp tk.hc (List.mem_of_getElem? tk.ho)
      rcases ho with h8 | h9
      · obtain ⟨x, h1, h2⟩ := this.1 h8
        exact ⟨x, h1, Or.inl h2⟩
      · obtain ⟨x, h1, h2⟩ := this.2 h9
        exact ⟨x, h1, Or.inr h2⟩
    obtain ⟨x, hx1, hx2⟩ := hx
    have hlt : o.2.2.toNat < k.lines.length := by rw [hk.ll]; exact (List.getElem?_eq_some_iff.1 hx1).1
    have hl1 : k.lines[o.2.2.toNat]? = some k.lines[o.2.2.toNat] := List.getElem?_eq_getElem hlt
    have := sees_line hk.ll hm.ll (fun i l x h1 h2 => (hk.lines i l x h1 h2).w) (fun i l x h1 h2 => (hm.lines i l x h1 h2).w) hsee _ x hx1 hx2
    exact ⟨_, hl1, by rw [← this]; exact hl1⟩
  have hrl : r < k.rooms.length := by rw [hk.rl]; exact hr
  have hrm : r < m.rooms.length := by rw [hm.rl]; exact hr
  obtain ⟨q1, q2⟩ := turn_same tk tm hst hl hrl hrm
  rw [e1, e2]
  refine ⟨?_, q2⟩
  rw [ht, q1]
end Go.Proofs.YtlegpedmfpbaiaeDoor
namespace Go.Proofs.YtlegpedmfpbaiaeDoor
open Go.RowKit

/-- States as cells. -/
def stCells (l : List St) : List Value := l.flatMap fun s => [.int .i64 s.p, .int .i64 (s.c 0), .int .i64 (s.c 1), .int .i64 (s.c 2), .int .i64 (s.c 3), .int .i64 (s.c 4), .int .i64 (s.c 5), .bool s.f]
theorem stCells_snoc (l : List St) (s : St) : stCells (l ++ [s]) = stCells l ++ [.int .i64 s.p, .int .i64 (s.c 0), .int .i64 (s.c 1), .int .i64 (s.c 2), .int .i64 (s.c 3), .int .i64 (s.c 4), .int .i64 (s.c 5), .bool s.f] := by simp [stCells]
theorem stCells_at : ∀ (l : List St) (i : Nat) (s : St), l[i]? = some s → (stCells l)[i * 8]? = some (.int .i64 s.p) ∧ (stCells l)[i * 8 + 1]? = some (.int .i64 (s.c 0)) ∧ (stCells l)[i * 8 + 2]? = some (.int .i64 (s.c 1)) ∧ (stCells l)[i * 8 + 3]? = some (.int .i64 (s.c 2)) ∧ (stCells l)[i * 8 + 4]? = some (.int .i64 (s.c 3)) ∧ (stCells l)[i * 8 + 5]? = some (.int .i64 (s.c 4)) ∧ (stCells l)[i * 8 + 6]? = some (.int .i64 (s.c 5)) ∧ (stCells l)[i * 8 + 7]? = some (.bool s.f)
  | [], i, s, h => by simp at h
  | x :: l, 0, s, h => by simp at h; subst h; simp [stCells]
  | x :: l, i + 1, s, h => by
    have h1 := stCells_at l i s (by simpa using h)
    have e : ∀ j, (stCells (x :: l))[(i + 1) * 8 + j]? = (stCells l)[i * 8 + j]? := fun j => by
      show ([.int .i64 x.p, .int .i64 (x.c 0), .int .i64 (x.c 1), .int .i64 (x.c 2), .int .i64 (x.c 3), .int .i64 (x.c 4), .int .i64 (x.c 5), .bool x.f] ++ stCells l)[(i + 1) * 8 + j]? = _
      rw [List.getElem?_append_right (by simp; omega)]
      congr 1
      simp
      omega
    exact ⟨(e 0).trans h1.1, (e 1).trans h1.2.1, (e 2).trans h1.2.2.1, (e 3).trans h1.2.2.2.1, (e 4).trans h1.2.2.2.2.1, (e 5).trans h1.2.2.2.2.2.1, (e 6).trans h1.2.2.2.2.2.2.1, (e 7).trans h1.2.2.2.2.2.2.2⟩
theorem st_one (s : St) : ∀ u ∈ [Value.int .i64 s.p, .int .i64 (s.c 0), .int .i64 (s.c 1), .int .i64 (s.c 2), .int .i64 (s.c 3), .int .i64 (s.c 4), .int .i64 (s.c 5), .bool s.f], u.oneCell' = true := by
  intro u hu
  simp only [List.mem_cons, List.not_mem_nil, or_false] at hu
  rcases hu with rfl | rfl | rfl | rfl | rfl | rfl | rfl | rfl <;> rfl
theorem st_new {w : World} {k : Nat} (hk : k = w.heap.size) (s : St) (t : TypeId) : ∀ j u, [Value.int .i64 s.p, .int .i64 (s.c 0), .int .i64 (s.c 1), .int .i64 (s.c 2), .int .i64 (s.c 3), .int .i64 (s.c 4), .int .i64 (s.c 5), .bool s.f][j]? = some u → (w.alloc (.cells #[.int .i64 s.p, .int .i64 (s.c 0), .int .i64 (s.c 1), .int .i64 (s.c 2), .int .i64 (s.c 3), .int .i64 (s.c 4), .int .i64 (s.c 5), .bool s.f] t)).cell? ((⟨k, 0, none⟩ : Addr).add j) = some u := by
  intro j u hj
  subst hk
  rw [Addr.add_lit, Nat.zero_add]
  match j, hj with
  | 0, hj => simp at hj; subst hj; simp
  | 1, hj => simp at hj; subst hj; simp
  | 2, hj => simp at hj; subst hj; simp
  | 3, hj => simp at hj; subst hj; simp
  | 4, hj => simp at hj; subst hj; simp
  | 5, hj => simp at hj; subst hj; simp
  | 6, hj => simp at hj; subst hj; simp
  | 7, hj => simp at hj; subst hj; simp
  | j + 8, hj => simp at hj
theorem infoSt : (Tryd.prog.info? 35).map (fun i => (i.zero, i.size, i.bytes)) = some (some (.agg #[.int .i64 0, .int .i64 0, .int .i64 0, .int .i64 0, .int .i64 0, .int .i64 0, .int .i64 0, .bool false]), 8, 64) := by kernel_rfl
end Go.Proofs.YtlegpedmfpbaiaeDoor
namespace Go.Proofs.YtlegpedmfpbaiaeDoor
open Go.RowKit

/-- What lies in threes can be read cell by cell. -/
theorem trio_at {w : World} {b : Nat} : ∀ (l : List (Int × Int × Int)) (off : Nat), (∀ (i : Nat) o, l[i]? = some o → w.cell? ⟨b, off + i * 3, none⟩ = some (.int .i64 o.1) ∧ w.cell? ⟨b, off + i * 3 + 1, none⟩ = some (.int .i64 o.2.1) ∧ w.cell? ⟨b, off + i * 3 + 2, none⟩ = some (.int .i64 o.2.2)) → ∀ j u, (spCells l)[j]? = some u → w.cell? ((⟨b, off, none⟩ : Addr).add j) = some u
  | [], off, _, j, u, hj => by simp [spCells] at hj
  | x :: l, off, h, j, u, hj => by
    have e : spCells (x :: l) = [.int .i64 x.1, .int .i64 x.2.1, .int .i64 x.2.2] ++ spCells l := by simp [spCells]
    rw [e] at hj
    obtain ⟨h0, h1, h2⟩ := h 0 x (by simp)
    rw [Addr.add_lit]
    match j, hj with
    | 0, hj => simp at hj; subst hj; simpa using h0
    | 1, hj => simp at hj; subst hj; simpa using h1
    | 2, hj => simp at hj; subst hj; simpa using h2
    | j + 3, hj =>
      rw [List.getElem?_append_right (by simp)] at hj
      have ih := trio_at l (off + 3) (fun i o ho => by
        have := h (i + 1) o (by simpa using ho)
        rw [show off + (i + 1) * 3 = off + 3 + i * 3 by omega] at this
        exact this) j u (by simpa using hj)
      rw [Addr.add_lit] at ih
      rw [show off + (j + 3) = off + 3 + j by omega]
      exact ih
theorem spCells_len : ∀ l : List (Int × Int × Int), (spCells l).length = l.length * 3
  | [] => rfl
  | x :: l => by
    have e : spCells (x :: l) = [.int .i64 x.1, .int .i64 x.2.1, .int .i64 x.2.2] ++ spCells l := by simp [spCells]
    rw [e, List.length_append, spCells_len l, List.length_cons]
    simp
    omega
theorem spCells_one (l : List (Int × Int × Int)) : ∀ u ∈ spCells l, u.oneCell' = true := by
  intro u hu
  simp only [spCells, List.mem_flatMap] at hu
  obtain ⟨o, _, hu⟩ := hu
  simp at hu
  rcases hu with rfl | rfl | rfl <;> rfl
theorem ginfoOp : (Tryd.prog.info? 47).map (fun i => (i.zero, i.size, i.bytes)) = some (some (.agg #[.int .i64 0, .int .i64 0, .int .i64 0]), 3, 24) := by kernel_rfl
set_option maxRecDepth 100000 in
set_option maxHeartbeats 4000000 in
theorem clone_sp_nil (cap : Nat) (w : World) : Calls Tryd.prog 10 #[.slice none 0 cap] w fun e w' => e = .returned (.slice none 0 0) ∧ w' = w := by
  have q : ∀ (w : World) (a : Option Addr) (n c n' c' : Nat), (binOp .eql 23 (.slice a n c) (.slice none n' c')).run Tryd.prog w = .ok (.bool a.isNone) w := fun w a n c n' c' => Lib.run_eql_slice_nil w _ _ a n c n' c' Tryd.underlying23
  go_enter Tryd.func10, Tryd.ntmps10
  go_wp2
  go_ret
  exact ⟨rfl, rfl⟩
set_option maxRecDepth 100000 in
set_option maxHeartbeats 4000000 in
theorem clone_sp_some (ad : Addr) (cap : Nat) (l : List (Int × Int × Int)) (w : World) (hx : l.length ≤ 1000) (hc : ∀ j u, (spCells l)[j]? = some u → w.cell? (ad.add j) = some u) :
    Calls Tryd.prog 10 #[.slice (some ad) l.length cap] w fun e w' => ∃ v', e = .returned v' ∧ w'.ownsRow w.heap.size 50 3 v' l.length (spCells l) ∧ Below w.heap.size w w' := by
  obtain ⟨ii, hi, hz0, hz1, hz2⟩ := info_parts infoSp
  have q : ∀ (w : World) (a : Option Addr) (n c n' c' : Nat), (binOp .eql 23 (.slice a n c) (.slice none n' c')).run Tryd.prog w = .ok (.bool a.isNone) w := fun w a n c n' c' => Lib.run_eql_slice_nil w _ _ a n c n' c' Tryd.underlying23
  have HC : Hid (∀ j u, (spCells l)[j]? = some u → w.cell? (ad.add j) = some u) := hc
  clear hc
  go_enter Tryd.func10, Tryd.ntmps10
  go_wp2_with (at_builtin; refine wpList_append_at _ rfl _ _ 23 rfl w.heap.size 50 ii _ 3 24 Tryd.underlying23 hi hz0 hz1 hz2 rfl (by decide) _ _ _ rfl (World.ownsRow_made w #[] 0 (Nat.le_refl _) (Nat.zero_le _) rfl) ad l.length cap (spCells l) rfl ?c0A ?c1A ?c2A ?c3A ?c4A ?c5A ?_)
  case c0A => exact spCells_len l
  case c1A =>
    intro j u hj
    have h := HC.out j u hj
    exact (((Below.refl _ w).alloc (Nat.le_refl _) _).cell (p := ad.add j) (World.block_lt_of_cell? w _ h)).trans h
  case c2A => exact spCells_one l
  case c3A => unfold maxLen; omega
  case c4A => omega
  case c5A => simp
  intro v1 w2 own1 hg1 hat1
  clear q
  go_wp2
  go_ret
  refine ⟨v1, rfl, by simpa using own1, ((Below.refl _ w).alloc (Nat.le_refl _) _).grown hg1 (by simp) (by intro k hk; simp [Value.ownBlock] at hk; omega)⟩
set_option maxRecDepth 100000 in
set_option maxHeartbeats 4000000 in
theorem clone_op_nil (cap : Nat) (w : World) : Calls Tryd.prog 11 #[.slice none 0 cap] w fun e w' => e = .returned (.slice none 0 0) ∧ w' = w := by
  have q : ∀ (w : World) (a : Option Addr) (n c n' c' : Nat), (binOp .eql 48 (.slice a n c) (.slice none n' c')).run Tryd.prog w = .ok (.bool a.isNone) w := fun w a n c n' c' => Lib.run_eql_slice_nil w _ _ a n c n' c' Tryd.underlying48
  go_enter Tryd.func11, Tryd.ntmps11
  go_wp2
  go_ret
  exact ⟨rfl, rfl⟩
set_option maxRecDepth 100000 in
set_option maxHeartbeats 4000000 in
theorem clone_op_some (ad : Addr) (cap : Nat) (l : List (Int × Int × Int)) (w : World) (hx : l.length ≤ 1000) (hc : ∀ j u, (spCells l)[j]? = some u → w.cell? (ad.add j) = some u) :
    Calls Tryd.prog 11 #[.slice (some ad) l.length cap] w fun e w' => ∃ v', e = .returned v' ∧ w'.ownsRow w.heap.size 47 3 v' l.length (spCells l) ∧ Below w.heap.size w w' := by
  obtain ⟨ii, hi, hz0, hz1, hz2⟩ := info_parts ginfoOp
  have q : ∀ (w : World) (a : Option Addr) (n c n' c' : Nat), (binOp .eql 48 (.slice a n c) (.slice none n' c')).run Tryd.prog w = .ok (.bool a.isNone) w := fun w a n c n' c' => Lib.run_eql_slice_nil w _ _ a n c n' c' Tryd.underlying48
  have HC : Hid (∀ j u, (spCells l)[j]? = some u → w.cell? (ad.add j) = some u) := hc
  clear hc
  go_enter Tryd.func11, Tryd.ntmps11
  go_wp2_with (at_builtin; refine wpList_append_at _ rfl _ _ 48 rfl w.heap.size 47 ii _ 3 24 Tryd.underlying48 hi hz0 hz1 hz2 rfl (by decide) _ _ _ rfl (World.ownsRow_made w #[] 0 (Nat.le_refl _) (Nat.zero_le _) rfl) ad l.length cap (spCells l) rfl ?c0A ?c1A ?c2A ?c3A ?c4A ?c5A ?_)
  case c0A => exact spCells_len l
  case c1A =>
    intro j u hj
    have h := HC.out j u hj
    exact (((Below.refl _ w).alloc (Nat.le_refl _) _).cell (p := ad.add j) (World.block_lt_of_cell? w _ h)).trans h
  case c2A => exact spCells_one l
  case c3A => unfold maxLen; omega
  case c4A => omega
  case c5A => simp
  intro v1 w2 own1 hg1 hat1
  clear q
  go_wp2
  go_ret
  refine ⟨v1, rfl, by simpa using own1, ((Below.refl _ w).alloc (Nat.le_refl _) _).grown hg1 (by simp) (by intro k hk; simp [Value.ownBlock] at hk; omega)⟩
theorem clone_sps (l : List S3) (v : Value) (w : World) (h : Sps w v l) (hx : l.length ≤ 1000) :
    Calls Tryd.prog 10 #[v] w fun e w' => ∃ v', e = .returned v' ∧ w'.ownsRow w.heap.size 50 3 v' l.length (spCells l) ∧ Below w.heap.size w w' := by
  rcases h with ⟨rfl, ao, cap, rfl⟩ | ⟨b, off, cap, rfl, hcap, hlt, hc⟩
  · cases ao with
    | none =>
      refine (clone_sp_nil cap w).mono ?_
      rintro e w' ⟨rfl, rfl⟩
      exact ⟨_, rfl, World.ownsRow_nil _ _ _ _, Below.refl _ _⟩
    | some ad => exact clone_sp_some ad cap [] w (Nat.zero_le _) (fun j u hj => by simp [spCells] at hj)
  · exact clone_sp_some ⟨b, off, none⟩ cap l w hx (trio_at l off hc)
theorem clone_ops (l : List O3) (v : Value) (w : World) (h : Ops w v l) (hx : l.length ≤ 1000) :
    Calls Tryd.prog 11 #[v] w fun e w' => ∃ v', e = .returned v' ∧ w'.ownsRow w.heap.size 47 3 v' l.length (spCells l) ∧ Below w.heap.size w w' := by
  rcases h with ⟨rfl, ao, cap, rfl⟩ | ⟨b, off, cap, rfl, hlt, hc⟩
  · cases ao with
    | none =>
      refine (clone_op_nil cap w).mono ?_
      rintro e w' ⟨rfl, rfl⟩
      exact ⟨_, rfl, World.ownsRow_nil _ _ _ _, Below.refl _ _⟩
    | some ad => exact clone_op_some ad cap [] w (Nat.zero_le _) (fun j u hj => by simp [spCells] at hj)
  · exact clone_op_some ⟨b, off, none⟩ cap l w hx (trio_at l off hc)
/-- Ops in a row of their own can be read. -/
theorem gops_own {w : World} {base : Nat} {v : Value} {l : List O3} (h : w.ownsRow base 47 3 v l.length (spCells l)) : Ops w v l := by
  have hl := h.lt
  have hcs := @World.ownsRow.cells _ _ _ _ _ _ _ h
  rcases h.2 with ⟨rfl, h0⟩ | ⟨g, cap, cur, rfl, _, _, hcap, _⟩
  · exact Or.inl ⟨List.eq_nil_of_length_eq_zero h0, _, _, rfl⟩
  · have hat : ∀ j u, (spCells l)[j]? = some u → w.cell? ⟨g, j, none⟩ = some u := fun j u hu => by
      have := hcs rfl j u hu
      rwa [Addr.add_lit, Nat.zero_add] at this
    refine Or.inr ⟨g, 0, cap, rfl, (hl g rfl).2, fun i o ho => ?_⟩
    obtain ⟨h1, h2, h3⟩ := spCells_at l i o ho
    exact ⟨by simpa using hat _ _ h1, by simpa using hat _ _ h2, by simpa using hat _ _ h3⟩
end Go.Proofs.YtlegpedmfpbaiaeDoor
namespace Go.Proofs.YtlegpedmfpbaiaeDoor
open Go.RowKit

/-- States in a row that can be read. -/
def StL (w : World) (v : Value) (l : List St) : Prop :=
  (l = [] ∧ ∃ ao cap, v = .slice ao 0 cap) ∨ ∃ b off cap, v = .slice (some ⟨b, off, none⟩) l.length cap ∧ l.length ≤ cap ∧ b < w.heap.size ∧ ∀ (i : Nat) s, l[i]? = some s → StC w b (off + i * 8) s
theorem StL.form {w : World} {v : Value} {l : List St} (h : StL w v l) : ∃ ao cap, v = .slice ao l.length cap := by
  rcases h with ⟨rfl, ao, cap, rfl⟩ | ⟨b, off, cap, rfl, _⟩
  · exact ⟨ao, cap, rfl⟩
  · exact ⟨_, cap, rfl⟩
theorem StL.all {w w' : World} {v : Value} {l : List St} (h : StL w v l) (hb : Below w.heap.size w w') : StL w' v l := by
  rcases h with h | ⟨b, off, cap, rfl, hcap, hlt, hc⟩
  · exact Or.inl h
  · exact Or.inr ⟨b, off, cap, rfl, hcap, Nat.lt_of_lt_of_le hlt hb.size, fun i s hi => (hc i s hi).block (hb.block b hlt)⟩
theorem StL.own {w : World} {base : Nat} {v : Value} {l : List St} (h : w.ownsRow base 35 8 v l.length (stCells l)) : StL w v l := by
  have hl := h.lt
  have hcs := @World.ownsRow.cells _ _ _ _ _ _ _ h
  rcases h.2 with ⟨rfl, h0⟩ | ⟨g, cap, cur, rfl, _, _, hcap, _⟩
  · exact Or.inl ⟨List.eq_nil_of_length_eq_zero h0, _, _, rfl⟩
  · have hat : ∀ j u, (stCells l)[j]? = some u → w.cell? ⟨g, j, none⟩ = some u := fun j u hu => by
      have := hcs rfl j u hu
      rwa [Addr.add_lit, Nat.zero_add] at this
    refine Or.inr ⟨g, 0, cap, rfl, hcap, (hl g rfl).2, fun i s hs => ?_⟩
    obtain ⟨q0, q1, q2, q3, q4, q5, q6, q7⟩ := stCells_at l i s hs
    rw [Nat.zero_add]
    exact ⟨hat _ _ q0, hat _ _ q1, hat _ _ q2, hat _ _ q3, hat _ _ q4, hat _ _ q5, hat _ _ q6, hat _ _ q7⟩
end Go.Proofs.YtlegpedmfpbaiaeDoor
namespace Go.Proofs.YtlegpedmfpbaiaeDoor
open Go.RowKit

/-- Run: the states of a room of a new kernel. -/
def SgtRun (G : World → Prop) : Prop := ∀ (p : PD) (vc vs vw : Value) (n r : Int) (W : World), G W → Pln W vc vs vw p → Calls Tryd.prog 4 #[plV vc p.ticks vs vw, .int .i64 n, .int .i64 r] W fun e w' => ∃ v, e = .returned (.tuple #[v, wErr (runE p n r)]) ∧ StL w' v (if runE p n r = 0 then statesK p n.toNat r.toNat else []) ∧ Below W.heap.size W w'
end Go.Proofs.YtlegpedmfpbaiaeDoor
namespace Go.Proofs.YtlegpedmfpbaiaeDoor
open Go.ChangeShapes Go.WideShapes Go.ChangeAt Go.WideElems Go.RowKit

theorem own : ownKnob Tryd.prog.godebug = none := by kernel_rfl
theorem laidOut : laidOutB Tryd.prog = true := by kernel_rfl
theorem trodAll_below {H : Type} {enc : TypeId × Value → H} {P : Program} (hlo : laidOutB P = true) {W W' : World} (hb : Below W.heap.size W W') (ts : List TypeId) : ∀ {vs : List Value} {ds : List (DataW H)} {ps : List MemPlace},
    (ts.all fun t => P.readableRec t && decide (t < P.types.size)) = true → DataW.TrodAll enc P W 0 (fun _ => true) true ts vs ds ps → (∀ x ∈ ps, x.block < W.heap.size) →
    DataW.TrodAll enc P W' 0 (fun b => decide (b < W.heap.size)) true ts vs ds ps := by
  induction ts with
  | nil =>
    intro vs ds ps _ h _
    cases vs <;> cases ds <;> exact h
  | cons t ts ih =>
    intro vs ds ps ht h hl
    cases vs with
    | nil => exact h.elim
    | cons v vs =>
      cases ds with
      | nil => exact h.elim
      | cons d ds =>
        obtain ⟨p, q, h1, h2, rfl⟩ := h
        simp only [List.all_cons, Bool.and_eq_true, decide_eq_true_eq] at ht
        exact ⟨p, q, Below.trod hlo ht.1.1 ht.1.2 h1 hb (fun x hx => hl x (by simp [hx])), ih (by simpa using ht.2) h2 (fun x hx => hl x (by simp [hx])), rfl⟩

theorem law_post {H : Type} {enc : TypeId × Value → H} {f : Func} {s : ChangeSpec} {W W' : World} {args : Array Value} {ds gs : List (DataW H)} {before : List MemPlace}
    (hf : f.resultTypes = #[4]) (hts : (f.params.toList.all fun t => Tryd.prog.readableRec t && decide (t < Tryd.prog.types.size)) = true) (hsv : s.vars = [])
    (hW : DataW.Whole enc Tryd.prog f.params.toList s.vars false W args.toList ds gs before) (hs : s.fn H (ds ++ gs) = { results := [.lit (.bool true)], args := ds }) (hb : Below W.heap.size W W') :
    s.post enc Tryd.prog f false true false false W args (.bool true) W' := by
  have hW' := hW
  obtain ⟨p, q, hA, hV, rfl, hfz, hnd⟩ := hW
  have hlt : ∀ x ∈ p, x.block < W.heap.size := fun x hx => by simpa using hW'.lt x (by simp [hx])
  refine ⟨ds, gs, p ++ q, [], p, [], hW', ?_, ?_, ?_, hb.frame _, fun h => by cases h⟩
  · rw [hs, hf]
    exact trodAll_cons_mk (shut_bool Tryd.underlying4 _) trodAll_mk0
  · rw [hs]
    exact trodAll_below laidOut hb _ hts hA hlt
  · rw [hs, hsv]
    rfl
end Go.Proofs.YtlegpedmfpbaiaeDoor
namespace Go.Proofs.YtlegpedmfpbaiaeDoor
open Go.RowKit

/-- The first of a room's states. -/
def stsK (p : PD) (t r : Nat) : List St := (List.range t).map fun i => (kT p i).rooms.getD r stNew
theorem stsK_len (p : PD) (t r : Nat) : (stsK p t r).length = t := by simp [stsK]
theorem stsK_succ (p : PD) (t r : Nat) : stsK p (t + 1) r = stsK p t r ++ [(kT p t).rooms.getD r stNew] := by
  unfold stsK
  rw [List.range_succ, List.map_append]
  rfl
theorem stsK_all (p : PD) (n r : Nat) : stsK p (n + 1) r = statesK p n r := rfl
/-- A row of the caller's own has grown. -/
theorem KTouch.rowG {w w2 wa : World} {row : Option Nat} (hb : Below w.heap.size w w2) (hg : w2.grownBy wa row) : KTouch row.toList w wa :=
  ⟨hg.os.trans hb.os, hg.tape.trans hb.tape, hg.output.trans hb.output, Nat.le_trans hb.size hg.size, fun k hk hm => by
    have := hb.size
    exact (hg.block k (by omega) (fun e => hm (by rw [← e]; simp))).trans (hb.block k hk)⟩
/-- A kernel, and a row of states beside it. -/
structure SRn {G : World → Prop} (C : KerC G) (w0 wr : World) (p : PD) (vc vs vw : Value) (kb B r t : Nat) (v : Value) (F : List Nat) : Prop where
  K : C.K w0 wr p vc vs vw (kT p t) kb F
  own : wr.ownsRow B 35 8 v t (stCells (stsK p t r))
  ap : ∀ g, v.ownBlock = some g → g ∉ F
  B1 : w0.heap.size ≤ B
  B2 : B ≤ wr.heap.size
/-- One more state, and a tick. -/
theorem SRn.more {G : World → Prop} {C : KerC G} {w0 wr w3 w8 : World} {p : PD} {vc vs vw : Value} {kb B r t : Nat} {v v' : Value} {F : List Nat} {s : St} (h : SRn C w0 wr p vc vs vw kb B r t v F) (hs : (kT p t).rooms.getD r stNew = s) (b3 : Below wr.heap.size wr w3) (hg : w3.grownBy w8 v.ownBlock)
    (own8 : w8.ownsRow B 35 8 v' (t + 1) (stCells (stsK p t r) ++ [.int .i64 s.p, .int .i64 (s.c 0), .int .i64 (s.c 1), .int .i64 (s.c 2), .int .i64 (s.c 3), .int .i64 (s.c 4), .int .i64 (s.c 5), .bool s.f])) (hnew : ∀ g, v'.ownBlock = some g → v.ownBlock = some g ∨ w3.heap.size ≤ g) (hG : G w0) (hp : plchk p = 0) (ht : t < 1000000) :
    Calls Tryd.prog 8 #[.pointer (some ⟨kb, 0, none⟩)] w8 fun e w' => ∃ a b c d, e = .returned (.agg #[.int .i64 a, .int .i64 b, .int .i64 c, .int .i64 d]) ∧ ∃ F', SRn C w0 w' p vc vs vw kb B r (t + 1) v' F' := by
  have tk := KTouch.rowG b3 hg
  have hK8 := C.frame h.K tk (fun m hm => by
    have hm' : v.ownBlock = some m := by simpa using hm
    exact ⟨h.ap m hm', Nat.le_trans h.B1 (h.own.lt m hm').1⟩)
  refine (C.tick hG hK8 hp (kT_ok hp t) (by rw [kT_time]; omega)).mono ?_
  rintro e w' ⟨rfl, F', hK', tk', hF'⟩
  have hs8 := tk.size
  have hs3 := b3.size
  have hg8 := hg.size
  have hap8 : ∀ g, v'.ownBlock = some g → g ∉ F := fun g hg' hm => by
    rcases hnew g hg' with h1 | h1
    · exact h.ap g h1 hm
    · have := (C.ge h.K g hm).2
      omega
  refine ⟨_, _, _, _, rfl, F', hK', ?_, fun g hg' hm => ?_, h.B1, Nat.le_trans h.B2 (Nat.le_trans hs8 tk'.size)⟩
  · rw [stsK_succ, stCells_snoc, hs]
    exact own_block own8 (fun g hg' => tk'.block g (own8.lt g hg').2 (hap8 g hg'))
  · rcases hF' g hm with h1 | h1
    · exact hap8 g hg' h1
    · have := (own8.lt g hg').2
      omega
set_option maxRecDepth 100000 in
set_option maxHeartbeats 8000000 in
theorem srun_wrong {G : World → Prop} (C : KerC G) (p : PD) (vc vs vw : Value) (n r : Int) (W : World) (hG : G W) (hP : Pln W vc vs vw p) (hp : plchk p ≠ 0) :
    Calls Tryd.prog 4 #[plV vc p.ticks vs vw, .int .i64 n, .int .i64 r] W fun e w' => e = .returned (.tuple #[.slice none 0 0, wErr (plchk p)]) ∧ Below W.heap.size W w' := by
  obtain ⟨ca, cc, rfl⟩ := hP.code.form
  obtain ⟨sa, sc, rfl⟩ := hP.spans.form
  obtain ⟨wa, wc', rfl⟩ := hP.wires.form
  have hx0 := Bx.first W (.slice ca p.code.length cc) p.ticks (.slice sa p.spans.length sc) (.slice wa p.wires.length wc')
  have q1 := C.no p _ _ _ _ (C.all _ _ hG hx0.below) (hP.all hx0.below) hp
  rw [wErr_not hp] at q1 ⊢
  unfold plV at q1 ⊢
  have k0 := hx0.c0
  have k1 := hx0.c1
  have k2 := hx0.c2
  have k3 := hx0.c3
  clear hP hG
  generalize plchk p = z at q1 hp ⊢
  go_enter Tryd.func4, Tryd.ntmps4
  go_wp2_with (go_at_call 6; refine q1.mono ?_; rintro e w1 ⟨x, rfl, b1⟩)
  go_ret2
  exact ⟨rfl, (hx0.step b1).below⟩
set_option maxRecDepth 100000 in
set_option maxHeartbeats 8000000 in
theorem srun_n {G : World → Prop} (C : KerC G) (p : PD) (vc vs vw : Value) (n r : Int) (W : World) (hG : G W) (hP : Pln W vc vs vw p) (hp : plchk p = 0) (hn : n < 0 ∨ 2000 < n) :
    Calls Tryd.prog 4 #[plV vc p.ticks vs vw, .int .i64 n, .int .i64 r] W fun e w' => e = .returned (.tuple #[.slice none 0 0, wErr 1]) ∧ Below W.heap.size W w' := by
  obtain ⟨ca, cc, rfl⟩ := hP.code.form
  obtain ⟨sa, sc, rfl⟩ := hP.spans.form
  obtain ⟨wa, wc', rfl⟩ := hP.wires.form
  have hx0 := Bx.first W (.slice ca p.code.length cc) p.ticks (.slice sa p.spans.length sc) (.slice wa p.wires.length wc')
  have q1 : Calls Tryd.prog 6 #[.agg #[.slice ca p.code.length cc, .int .i64 p.ticks, .slice sa p.spans.length sc, .slice wa p.wires.length wc']] (W.alloc (.cells #[.slice ca p.code.length cc, .int .i64 p.ticks, .slice sa p.spans.length sc, .slice wa p.wires.length wc'] 26)) fun e w' => ∃ kb, e = .returned (.tuple #[.pointer (some ⟨kb, 0, none⟩), .nilIface]) ∧ Below W.heap.size W w' := by
    refine (C.new p _ _ _ _ (C.all _ _ hG hx0.below) (hP.all hx0.below) hp).mono ?_
    rintro e w' ⟨kb, F, rfl, hK⟩
    exact ⟨kb, rfl, hx0.below.trans ((C.since hK).mono (by simp))⟩
  unfold plV
  have k0 := hx0.c0
  have k1 := hx0.c1
  have k2 := hx0.c2
  have k3 := hx0.c3
  clear hP hG hp
  have hcase : decide (n < 0) = true ∨ (decide (n < 0) = false ∧ decide (2000 < n) = true) := by
    by_cases h : n < 0
    · exact Or.inl (decide_eq_true h)
    · exact Or.inr ⟨decide_eq_false h, decide_eq_true (hn.resolve_left h)⟩
  clear hn
  rcases hcase with h1 | ⟨h1, h2⟩
  · go_enter Tryd.func4, Tryd.ntmps4
    go_wp2_with (go_at_call 6; refine q1.mono ?_; rintro e w1 ⟨kb, rfl, b1⟩)
    go_ret2
    exact ⟨rfl, b1⟩
  · go_enter Tryd.func4, Tryd.ntmps4
    go_wp2_with (go_at_call 6; refine q1.mono ?_; rintro e w1 ⟨kb, rfl, b1⟩)
    go_ret2
    exact ⟨rfl, b1⟩
set_option maxRecDepth 100000 in
set_option maxHeartbeats 8000000 in
theorem srun_room {G : World → Prop} (C : KerC G) (p : PD) (vc vs vw : Value) (n : Nat) (r : Int) (W : World) (hG : G W) (hP : Pln W vc vs vw p) (hp : plchk p = 0) (hn : n ≤ 2000) (hr : r < 0 ∨ (p.code.length : Int) ≤ r) :
    Calls Tryd.prog 4 #[plV vc p.ticks vs vw, .int .i64 n, .int .i64 r] W fun e w' => e = .returned (.tuple #[.slice none 0 0, wErr 1]) ∧ Below W.heap.size W w' := by
  obtain ⟨ca, cc, rfl⟩ := hP.code.form
  obtain ⟨sa, sc, rfl⟩ := hP.spans.form
  obtain ⟨wa, wc', rfl⟩ := hP.wires.form
  have hx0 := Bx.first W (.slice ca p.code.length cc) p.ticks (.slice sa p.spans.length sc) (.slice wa p.wires.length wc')
  have q1 : Calls Tryd.prog 6 #[.agg #[.slice ca p.code.length cc, .int .i64 p.ticks, .slice sa p.spans.length sc, .slice wa p.wires.length wc']] (W.alloc (.cells #[.slice ca p.code.length cc, .int .i64 p.ticks, .slice sa p.spans.length sc, .slice wa p.wires.length wc'] 26)) fun e w' => ∃ kb, e = .returned (.tuple #[.pointer (some ⟨kb, 0, none⟩), .nilIface]) ∧ Below W.heap.size W w' ∧ Calls Tryd.prog 7 #[.pointer (some ⟨kb, 0, none⟩), .int .i64 r] w' fun e w2 => e = .returned (.tuple #[stA stNew, wErr 1]) ∧ Below w'.heap.size w' w2 := by
    refine (C.new p _ _ _ _ (C.all _ _ hG hx0.below) (hP.all hx0.below) hp).mono ?_
    rintro e w' ⟨kb, F, rfl, hK⟩
    have hno : noRoom (newK p) r = true := by
      have hl : (newK p).rooms.length = p.code.length := by simp [newK]
      unfold noRoom
      rw [hl, Bool.or_eq_true]
      rcases hr with h | h
      · exact Or.inl (decide_eq_true h)
      · exact Or.inr (decide_eq_true h)
    have hS := C.state r hK (kT_ok hp 0) hp
    have hrk : roomK (newK p) r = stNew := by
      unfold roomK
      rw [if_pos hno]
    rw [hrk, hno] at hS
    exact ⟨kb, rfl, hx0.below.trans ((C.since hK).mono (by simp)), hS⟩
  unfold plV
  have k0 := hx0.c0
  have k1 := hx0.c1
  have k2 := hx0.c2
  have k3 := hx0.c3
  clear hP hG hp hr
  have hn0 : decide ((n : Int) < 0) = false := decide_eq_false (by omega)
  have hn1 : decide (2000 < (n : Int)) = false := decide_eq_false (by omega)
  have hn3 : (0 : Int) < (n : Int) + 1 := by omega
  unfold stA stNew wErr at q1
  go_enter Tryd.func4, Tryd.ntmps4
  go_wp2_with (go_at_call 6; refine q1.mono ?_; rintro e w1 ⟨kb, rfl, b1, q2⟩)
  refine wp_loop_rounds 1 ?_
  rw [rounds_succ]
  go_wp2_with (go_at_call 7; refine q2.mono ?_; rintro e w2 ⟨rfl, b2⟩)
  go_ret2
  refine ⟨rfl, ?_⟩
  have hb := b1.trans (b2.mono b1.size)
  have hs := hb.size
  repeat' first | exact hb | refine Below.drew ?_ | refine Below.alloc ?_ (by first | omega | (simp; omega)) _ | refine Below.setCell ?_ (by first | omega | (simp; omega)) _
set_option maxRecDepth 100000 in
set_option maxHeartbeats 8000000 in
theorem srun_ok {G : World → Prop} (C : KerC G) (p : PD) (vc vs vw : Value) (n r : Nat) (W : World) (hG : G W) (hP : Pln W vc vs vw p) (hp : plchk p = 0) (hn : n ≤ 2000) (hr : r < p.code.length) :
    Calls Tryd.prog 4 #[plV vc p.ticks vs vw, .int .i64 n, .int .i64 r] W fun e w' => ∃ v, e = .returned (.tuple #[v, .nilIface]) ∧ StL w' v (statesK p n r) ∧ Below W.heap.size W w' := by
  obtain ⟨jj, hj, hy0, hy1, hy2⟩ := info_parts infoSt
  obtain ⟨ca, cc, rfl⟩ := hP.code.form
  obtain ⟨sa, sc, rfl⟩ := hP.spans.form
  obtain ⟨wa, wc', rfl⟩ := hP.wires.form
  have hx0 := Bx.first W (.slice ca p.code.length cc) p.ticks (.slice sa p.spans.length sc) (.slice wa p.wires.length wc')
  have HG : Hid (G (W.alloc (.cells #[.slice ca p.code.length cc, .int .i64 p.ticks, .slice sa p.spans.length sc, .slice wa p.wires.length wc'] 26))) := C.all _ _ hG hx0.below
  have hA := hx0.below
  have HN : Hid (Calls Tryd.prog 6 #[.agg #[.slice ca p.code.length cc, .int .i64 p.ticks, .slice sa p.spans.length sc, .slice wa p.wires.length wc']] (W.alloc (.cells #[.slice ca p.code.length cc, .int .i64 p.ticks, .slice sa p.spans.length sc, .slice wa p.wires.length wc'] 26)) fun e w' => ∃ kb F, e = .returned (.tuple #[.pointer (some ⟨kb, 0, none⟩), .nilIface]) ∧ C.K (W.alloc (.cells #[.slice ca p.code.length cc, .int .i64 p.ticks, .slice sa p.spans.length sc, .slice wa p.wires.length wc'] 26)) w' p (.slice ca p.code.length cc) (.slice sa p.spans.length sc) (.slice wa p.wires.length wc') (newK p) kb F) := C.new p _ _ _ _ HG.out (hP.all hx0.below) hp
  unfold plV
  have k0 := hx0.c0
  have k1 := hx0.c1
  have k2 := hx0.c2
  have k3 := hx0.c3
  have HGs : Hid (∀ t, noRoom (kT p t) r = false ∧ roomK (kT p t) r = (kT p t).rooms.getD r stNew) := fun t => by
    have hl : (kT p t).rooms.length = p.code.length := (kT_ok hp t).rl
    have hno : noRoom (kT p t) r = false := by
      unfold noRoom
      rw [hl, Bool.or_eq_false_iff]
      exact ⟨decide_eq_false (by omega), decide_eq_false (by omega)⟩
    refine ⟨hno, ?_⟩
    unfold roomK
    rw [if_neg (by rw [hno]; decide), Int.toNat_natCast]
  clear hP hG
  have hn0 : decide ((n : Int) < 0) = false := decide_eq_false (by omega)
  have hn1 : decide (2000 < (n : Int)) = false := decide_eq_false (by omega)
  go_enter Tryd.func4, Tryd.ntmps4
  go_wp2_with (go_at_call 6; refine HN.out.mono ?_; rintro e w1 ⟨kb, F, rfl, hK⟩)
  clear HN
  generalize W.alloc (.cells #[.slice ca p.code.length cc, .int .i64 p.ticks, .slice sa p.spans.length sc, .slice wa p.wires.length wc'] 26) = W0 at *
  go_loopw [10, 30] (fun v i wr => ∃ (t : Nat) (F : List Nat), t ≤ n + 1 ∧ i = .int .i64 t ∧ SRn C W0 wr p (.slice ca p.code.length cc) (.slice sa p.spans.length sc) (.slice wa p.wires.length wc') kb w1.heap.size r t v F) (fun _ i _ => n + 1 - (intOf i).toNat)
  case atStart => exact ⟨0, F, Nat.zero_le _, rfl, hK, World.ownsRow_nil _ _ _ _, fun g hg => (by cases hg), (C.since hK).size, Nat.le_refl _⟩
  case round =>
    clear hK
    obtain ⟨t, F', htn, rfl, hst⟩ := hrel
    obtain ⟨vo, vn, vk, rfl⟩ := own_form hst.own
    have hbw := C.since hst.K
    by_cases htl : t < n + 1
    · have hti : (t : Int) < (n : Int) + 1 := by omega
      obtain ⟨hno, hrk⟩ := HGs.out t
      obtain ⟨s, hs⟩ : ∃ s, (kT p t).rooms.getD r stNew = s := ⟨_, rfl⟩
      have HS : Hid ((kT p t).rooms.getD r stNew = s) := hs
      have hS := C.state r hst.K (kT_ok hp t) hp
      rw [hno, hrk, hs] at hS
      have HT : Hid (Calls Tryd.prog 7 #[.pointer (some ⟨kb, 0, none⟩), .int .i64 r] wr fun e w2 => e = .returned (.tuple #[.agg #[.int .i64 s.p, .int .i64 (s.c 0), .int .i64 (s.c 1), .int .i64 (s.c 2), .int .i64 (s.c 3), .int .i64 (s.c 4), .int .i64 (s.c 5), .bool s.f], .nilIface]) ∧ Below wr.heap.size wr w2) := hS
      have HR : Hid (SRn C W0 wr p (.slice ca p.code.length cc) (.slice sa p.spans.length sc) (.slice wa p.wires.length wc') kb w1.heap.size r t (.slice vo vn vk) F') := hst
      have hown0 := hst.own
      have hB2 := hst.B2
      clear hS hs hst hno hrk
      go_upto_region 9 with fail
      go_cut [11, 12, 30] from 30 to 47 (fun s11 s12 s30 wx => s12 = .nilIface ∧ s30 = .int .i64 t ∧ ∃ g, s11 = .pointer (some ⟨g, 0, none⟩) ∧ StC wx g 0 s ∧ Below wr.heap.size wr wx)
      case first =>
        go_wp2_with (go_at_call 7; refine HT.out.mono ?_; rintro e w2 ⟨rfl, b2⟩)
        go_meet
        case rel =>
          refine ⟨rfl, rfl, w2.heap.size, rfl, ?_, ?_⟩
          · constructor <;> simp [go_sem]
          · have hs2 := b2.size
            repeat' first | exact b2 | refine Below.drew ?_ | refine Below.alloc ?_ (by first | omega | (simp; omega)) _ | refine Below.setCell ?_ (by first | omega | (simp; omega)) _
      case rest =>
        obtain ⟨rfl, rfl, g, rfl, hsc, hbc⟩ := hcut
        obtain ⟨q0, q1, q2, q3, q4, q5, q6, q7⟩ := hsc
        have own3 := own_block hown0 (fun k hk => hbc.block k (hown0.lt k hk).2)
        have hsz := hbc.size
        clear HT hown0
        go_wp2_with (at_builtin; refine wpList_append_at _ rfl _ _ 27 rfl w1.heap.size 35 jj _ 8 64 Tryd.underlying27 hj hy0 hy1 hy2 rfl (by decide) _ _ _ rfl (own3.alloc _) ⟨wc.heap.size, 0, none⟩ 1 1 [.int .i64 s.p, .int .i64 (s.c 0), .int .i64 (s.c 1), .int .i64 (s.c 2), .int .i64 (s.c 3), .int .i64 (s.c 4), .int .i64 (s.c 5), .bool s.f] rfl rfl ?c1A ?c2A ?c3A ?c4A ?c5A ?_)
        try (case c1A => exact st_new rfl s _)
        case c2A => first | exact st_one s | exact ⟨rfl, rfl, rfl, rfl, rfl, rfl, rfl, rfl⟩
        case c3A => unfold maxLen; omega
        case c4A => omega
        case c5A => first | omega | (simp; omega)
        intro v1 w8 own8 hg8 hnw8
        have hb3 : Below wr.heap.size wr (wc.alloc (.cells #[.int .i64 s.p, .int .i64 (s.c 0), .int .i64 (s.c 1), .int .i64 (s.c 2), .int .i64 (s.c 3), .int .i64 (s.c 4), .int .i64 (s.c 5), .bool s.f] 35)) := hbc.alloc hbc.size _
        have HQ : Hid (Calls Tryd.prog 8 #[.pointer (some ⟨kb, 0, none⟩)] w8 fun e w' => ∃ a b c d, e = .returned (.agg #[.int .i64 a, .int .i64 b, .int .i64 c, .int .i64 d]) ∧ ∃ F', SRn C W0 w' p (.slice ca p.code.length cc) (.slice sa p.spans.length sc) (.slice wa p.wires.length wc') kb w1.heap.size r (t + 1) v1 F') := HR.out.more HS.out hb3 hg8 own8 (fun g hg => by have := hnw8 g hg; simpa using this) HG.out hp (by omega)
        obtain ⟨g8, cap8, rfl⟩ := own_succ own8
        clear own8 hg8 hnw8 own3 q0 q1 q2 q3 q4 q5 q6 q7 hb3
        go_wp2_with (go_at_call 8; refine HQ.out.mono ?_; rintro e w9 ⟨ea, eb, ec, ed, rfl, F9, hst9⟩)
        go_roundw
        case rel => exact ⟨t + 1, F9, by omega, by go_num, hst9⟩
        case measure => simp [intOf]; omega
    · obtain rfl : t = n + 1 := by omega
      have hti : decide (((n + 1 : Nat) : Int) < (n : Int) + 1) = false := decide_eq_false (by omega)
      have HS : Hid (StL wr (.slice vo vn vk) (statesK p n r)) := StL.own (by rw [statesK_len]; exact hst.own)
      have HB' : Hid (Below W.heap.size W wr) := hA.trans (hbw.mono hA.size)
      clear hst
      go_wp2
      go_ret2
      exact ⟨_, rfl, HS.out, HB'.out⟩
/-- Run does what the laws of sight ask of it. -/
theorem sgt_run {G : World → Prop} (C : KerC G) : SgtRun G := fun p vc vs vw n r W hG hP => by
  by_cases hp : plchk p = 0
  · by_cases hn : n < 0 ∨ 2000 < n
    · have he : runE p n r = 1 := by
        unfold runE
        rw [if_pos hp, if_pos (by omega)]
      rw [he]
      refine (srun_n C p vc vs vw n r W hG hP hp hn).mono ?_
      rintro e w' ⟨rfl, hb⟩
      exact ⟨_, rfl, Or.inl ⟨rfl, _, _, rfl⟩, hb⟩
    · obtain ⟨n, rfl⟩ : ∃ m : Nat, n = m := ⟨n.toNat, by omega⟩
      by_cases hr : r < 0 ∨ (p.code.length : Int) ≤ r
      · have he : runE p n r = 1 := by
          unfold runE
          rw [if_pos hp, if_pos (by omega)]
        rw [he]
        refine (srun_room C p vc vs vw n r W hG hP hp (by omega) hr).mono ?_
        rintro e w' ⟨rfl, hb⟩
        exact ⟨_, rfl, Or.inl ⟨rfl, _, _, rfl⟩, hb⟩
      · obtain ⟨r, rfl⟩ : ∃ m : Nat, r = m := ⟨r.toNat, by omega⟩
        have he : runE p n r = 0 := by
          unfold runE
          rw [if_pos hp, if_neg (by omega)]
        rw [he, if_pos rfl, Int.toNat_natCast, Int.toNat_natCast]
        exact srun_ok C p vc vs vw n r W hG hP hp (by omega) (by omega)
  · have he : runE p n r = plchk p := by
      unfold runE
      rw [if_neg hp]
    rw [he, if_neg hp]
    refine (srun_wrong C p vc vs vw n r W hG hP hp).mono ?_
    rintro e w' ⟨rfl, hb⟩
    exact ⟨_, rfl, Or.inl ⟨rfl, _, _, rfl⟩, hb⟩
end Go.Proofs.YtlegpedmfpbaiaeDoor
