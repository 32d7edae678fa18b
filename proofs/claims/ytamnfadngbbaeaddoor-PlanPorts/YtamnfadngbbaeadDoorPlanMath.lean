/-
  A plan, plain: what is wrong with one; its lines; a text as one.
-/
import Derived.Test.YtamnfadngbbaeadDoorRopMath
import Derived.Test.YtamnfadngbbaeadDoorWireMath
import Derived.Test.YtamnfadngbbaeadDoorFrameMath
import Derived.Test.YtamnfadngbbaeadDoorFlowMath
namespace Go.Proofs.YtamnfadngbbaeadDoor

/-- A plan: the code of each room, ticks, spans, wires. -/
structure PD where
  code : List (List O3)
  ticks : Int
  spans : List S3
  wires : List W4
def PD.none : PD := ⟨[], 0, [], []⟩
/-- The fault of the first code that is wrong. -/
def codesE : List (List O3) → Int
  | [] => 0
  | c :: r => if (chk c).2 = 0 then codesE r else (chk c).2
/-- Is a wire none of a room's own? -/
def portB (at' : W4 → Int) (ws : List W4) (i : Nat) (k : Int) : Bool := match ws[k.toNat]? with
  | none => true
  | some x => !decide (at' x = (i : Int))
def portsB (ws : List W4) (i : Nat) (c : List O3) : Bool := (wiresB 8 c).any (portB (·.1) ws i) || (wiresB 9 c).any (portB (·.2.1) ws i)
def portsAny (ws : List W4) : Nat → List (List O3) → Bool
  | _, [] => false
  | i, c :: r => portsB ws i c || portsAny ws (i + 1) r
/-- Does a span name a room that has no code? -/
def spanOut (n : Nat) (s : S3) : Bool := decide ((n : Int) ≤ s.2.2)
def wireOut (n : Nat) (x : W4) : Bool := decide ((n : Int) ≤ x.1) || decide ((n : Int) ≤ x.2.1)
/-- The fault of a plan. -/
def plchk (p : PD) : Int :=
  if 5 < p.code.length then 4 else if p.code.length = 0 then 5 else
  if (fchk p.ticks p.spans).2 ≠ 0 then (fchk p.ticks p.spans).2 else
  if (wschk p.wires).2 ≠ 0 then (wschk p.wires).2 else
  if p.spans.any (spanOut p.code.length) = true then 1 else
  if p.wires.any (wireOut p.code.length) = true then 1 else
  if codesE p.code ≠ 0 then codesE p.code else
  if portsAny p.wires 0 p.code = true then 3 else 0
theorem plchk_long {p : PD} (h : 5 < p.code.length) : plchk p = 4 := by rw [plchk, if_pos h]
theorem plchk_none {p : PD} (h : p.code.length = 0) : plchk p = 5 := by rw [plchk, if_neg (by omega), if_pos h]
theorem plchk_frame {p : PD} (h1 : p.code.length ≤ 5) (h2 : p.code.length ≠ 0) (h3 : (fchk p.ticks p.spans).2 ≠ 0) : plchk p = (fchk p.ticks p.spans).2 := by rw [plchk, if_neg (by omega), if_neg h2, if_pos h3]
theorem plchk_wires {p : PD} (h1 : p.code.length ≤ 5) (h2 : p.code.length ≠ 0) (h3 : (fchk p.ticks p.spans).2 = 0) (h4 : (wschk p.wires).2 ≠ 0) : plchk p = (wschk p.wires).2 := by
  rw [plchk, if_neg (by omega), if_neg h2, if_neg (by simpa using h3), if_pos h4]
theorem plchk_span {p : PD} (h1 : p.code.length ≤ 5) (h2 : p.code.length ≠ 0) (h3 : (fchk p.ticks p.spans).2 = 0) (h4 : (wschk p.wires).2 = 0) (h5 : p.spans.any (spanOut p.code.length) = true) : plchk p = 1 := by
  rw [plchk, if_neg (by omega), if_neg h2, if_neg (by simpa using h3), if_neg (by simpa using h4), if_pos h5]
theorem plchk_wire {p : PD} (h1 : p.code.length ≤ 5) (h2 : p.code.length ≠ 0) (h3 : (fchk p.ticks p.spans).2 = 0) (h4 : (wschk p.wires).2 = 0) (h5 : p.spans.any (spanOut p.code.length) = false) (h6 : p.wires.any (wireOut p.code.length) = true) : plchk p = 1 := by
  rw [plchk, if_neg (by omega), if_neg h2, if_neg (by simpa using h3), if_neg (by simpa using h4), if_neg (by rw [h5]; decide), if_pos h6]
theorem plchk_tail {p : PD} (h1 : p.code.length ≤ 5) (h2 : p.code.length ≠ 0) (h3 : (fchk p.ticks p.spans).2 = 0) (h4 : (wschk p.wires).2 = 0) (h5 : p.spans.any (spanOut p.code.length) = false) (h6 : p.wires.any (wireOut p.code.length) = false) :
    plchk p = if codesE p.code ≠ 0 then codesE p.code else if portsAny p.wires 0 p.code = true then 3 else 0 := by
  rw [plchk, if_neg (by omega), if_neg h2, if_neg (by simpa using h3), if_neg (by simpa using h4), if_neg (by rw [h5]; decide), if_neg (by rw [h6]; decide)]
theorem plchk_zero {p : PD} (h : plchk p = 0) : p.code.length ≤ 5 ∧ p.code.length ≠ 0 ∧ (fchk p.ticks p.spans).2 = 0 ∧ (wschk p.wires).2 = 0 ∧ p.spans.any (spanOut p.code.length) = false ∧ p.wires.any (wireOut p.code.length) = false ∧ codesE p.code = 0 ∧ portsAny p.wires 0 p.code = false := by
  unfold plchk at h
  split at h
  · simp at h
  · rename_i h1
    split at h
    · simp at h
    · rename_i h2
      split at h
      · contradiction
      · rename_i h3
        split at h
        · contradiction
        · rename_i h4
          split at h
          · simp at h
          · rename_i h5
            split at h
            · simp at h
            · rename_i h6
              split at h
              · contradiction
              · rename_i h7
                split at h
                · simp at h
                · rename_i h8
                  exact ⟨by omega, h2, by simpa using h3, by simpa using h4, by simpa using h5, by simpa using h6, by simpa using h7, by simpa using h8⟩
theorem codesE_zero : ∀ {l : List (List O3)}, codesE l = 0 → ∀ c ∈ l, (chk c).2 = 0
  | [], _, c, hc => by simp at hc
  | x :: l, h, c, hc => by
    rw [codesE] at h
    by_cases hx : (chk x).2 = 0
    · rw [if_pos hx] at h
      rcases List.mem_cons.1 hc with rfl | hc
      · exact hx
      · exact codesE_zero h c hc
    · rw [if_neg hx] at h
      exact absurd h hx
theorem codesE_skip : ∀ (l : List (List O3)) (k : Nat), (∀ (j : Nat) c, j < k → l[j]? = some c → (chk c).2 = 0) → codesE l = codesE (l.drop k)
  | l, 0, _ => by simp
  | [], k + 1, _ => by simp
  | x :: l, k + 1, h => by
    have hx : (chk x).2 = 0 := h 0 x (by omega) rfl
    rw [codesE, if_pos hx, List.drop_succ_cons]
    exact codesE_skip l k (fun j c hj hc => h (j + 1) c (by omega) (by simpa using hc))
theorem codesE_hit {l : List (List O3)} {k : Nat} {c : List O3} (h : ∀ (j : Nat) c, j < k → l[j]? = some c → (chk c).2 = 0) (hc : l[k]? = some c) (hb : (chk c).2 ≠ 0) : codesE l = (chk c).2 := by
  rw [codesE_skip l k h]
  obtain ⟨hk, rfl⟩ := List.getElem?_eq_some_iff.1 hc
  rw [List.drop_eq_getElem_cons hk, codesE, if_neg hb]
theorem codesE_ok {l : List (List O3)} (h : ∀ (j : Nat) c, j < l.length → l[j]? = some c → (chk c).2 = 0) : codesE l = 0 := by
  rw [codesE_skip l l.length h]
  simp [codesE]
theorem portsAny_skip (ws : List W4) : ∀ (l : List (List O3)) (k i : Nat), (∀ (j : Nat) c, j < k → l[j]? = some c → portsB ws (i + j) c = false) → portsAny ws i l = portsAny ws (i + k) (l.drop k)
  | l, 0, i, _ => by simp
  | [], k + 1, i, _ => by simp [portsAny]
  | x :: l, k + 1, i, h => by
    have hx : portsB ws i x = false := h 0 x (by omega) rfl
    rw [portsAny, hx, Bool.false_or, List.drop_succ_cons, show i + (k + 1) = i + 1 + k by omega]
    exact portsAny_skip ws l k (i + 1) (fun j c hj hc => by rw [show i + 1 + j = i + (j + 1) by omega]; exact h (j + 1) c (by omega) (by simpa using hc))
theorem portsAny_hit {ws : List W4} {l : List (List O3)} {k : Nat} {c : List O3} (h : ∀ (j : Nat) c, j < k → l[j]? = some c → portsB ws j c = false) (hc : l[k]? = some c) (hb : portsB ws k c = true) : portsAny ws 0 l = true := by
  rw [portsAny_skip ws l k 0 (fun j c hj hx => by rw [Nat.zero_add]; exact h j c hj hx), Nat.zero_add]
  obtain ⟨hk, rfl⟩ := List.getElem?_eq_some_iff.1 hc
  rw [List.drop_eq_getElem_cons hk, portsAny, hb, Bool.true_or]
theorem portsAny_ok {ws : List W4} {l : List (List O3)} (h : ∀ (j : Nat) c, j < l.length → l[j]? = some c → portsB ws j c = false) : portsAny ws 0 l = false := by
  rw [portsAny_skip ws l l.length 0 (fun j c hj hx => by rw [Nat.zero_add]; exact h j c hj hx)]
  simp [portsAny]

/-! Lines. -/
def wFrame : List UInt8 := [102, 114, 97, 109, 101]
def wSpan : List UInt8 := [115, 112, 97, 110]
def wWire : List UInt8 := [119, 105, 114, 101]
def wRoom : List UInt8 := [114, 111, 111, 109]
def frameL (n : Int) : List UInt8 := wFrame ++ tail [n]
def spanL (s : S3) : List UInt8 := wSpan ++ tail [s.1, s.2.1, s.2.2]
def wireL (x : W4) : List UInt8 := wWire ++ tail [x.1, x.2.1, x.2.2.1, x.2.2.2]
/-- An op's line, without its end. -/
def opL (o : O3) : List UInt8 := nameB o.1 ++ tail (numsB o)
def roomL (c : List O3) : List (List UInt8) := wRoom :: c.map opL
/-- The lines of a plan, without their ends. -/
def planL (p : PD) : List (List UInt8) := frameL p.ticks :: (p.spans.map spanL ++ (p.wires.map wireL ++ p.code.flatMap roomL))
/-- Lines with their ends, as a text. -/
def endL (ls : List (List UInt8)) : List UInt8 := ls.flatMap (· ++ [10])
def planB (p : PD) : List UInt8 := endL (planL p)

/-! A text as a plan. -/
def spanOf (u : List UInt8) : Option S3 := match bodyB u with
  | some (p, [a, b, c]) => if p = wSpan then some (a, b, c) else none
  | _ => none
def wireOf (u : List UInt8) : Option W4 := match bodyB u with
  | some (p, [a, b, c, d]) => if p = wWire then some (a, b, c, d) else none
  | _ => none
def frameOf (u : List UInt8) : Option Int := match bodyB u with
  | some (p, [a]) => if p = wFrame then some a else none
  | _ => none
def takeF {α : Type} (f : List UInt8 → Option α) : List (List UInt8) → List α × List (List UInt8)
  | [] => ([], [])
  | u :: r => match f u with
    | none => ([], u :: r)
    | some s => (s :: (takeF f r).1, (takeF f r).2)
/-- One op more, of the last room. -/
def onto (acc : List (List O3)) (o : O3) : Option (List (List O3)) := match acc.getLast? with
  | none => none
  | some c => some (acc.dropLast ++ [c ++ [o]])
def roomsOf : List (List O3) → List (List UInt8) → Option (List (List O3))
  | acc, [] => some acc
  | acc, u :: r => if u = wRoom then roomsOf (acc ++ [[]]) r else match opRead (u ++ [10]) with
    | none => none
    | some o => match onto acc o with
      | none => none
      | some a => roomsOf a r
/-- Lines, without their ends, as a plan. -/
def planOf : List (List UInt8) → Option PD
  | [] => none
  | u :: r => match frameOf u with
    | none => none
    | some n => match roomsOf [] (takeF wireOf (takeF spanOf r).2).2 with
      | none => none
      | some cs => some ⟨cs, n, (takeF spanOf r).1, (takeF wireOf (takeF spanOf r).2).1⟩
/-- What is read, and the fault. -/
def planR (o : Option PD) : PD × Int := match o with
  | none => (PD.none, 2)
  | some p => if plchk p = 0 then (p, 0) else (PD.none, plchk p)
theorem planR_none : planR none = (PD.none, 2) := rfl
theorem planR_ok {p : PD} (h : plchk p = 0) : planR (some p) = (p, 0) := by
  show (if plchk p = 0 then (p, (0 : Int)) else (PD.none, plchk p)) = _
  rw [if_pos h]
theorem planR_bad {p : PD} (h : plchk p ≠ 0) : planR (some p) = (PD.none, plchk p) := by
  show (if plchk p = 0 then (p, (0 : Int)) else (PD.none, plchk p)) = _
  rw [if_neg h]
/-- A text as a plan, and the fault. -/
def planP (t : List UInt8) : PD × Int := if (cutB 10 t).getLast? = some [] then planR (planOf (cutB 10 t).dropLast) else (PD.none, 2)
theorem planP_open {t : List UInt8} {ps : List (List UInt8)} {q : List UInt8} (h : cutB 10 t = ps ++ [q]) (hq : q ≠ []) : planP t = (PD.none, 2) := by
  rw [planP, h, if_neg (by simpa using hq)]
theorem planP_shut {t : List UInt8} {ps : List (List UInt8)} (h : cutB 10 t = ps ++ [[]]) : planP t = planR (planOf ps) := by
  rw [planP, h, if_pos (by simp), List.dropLast_concat]
theorem takeF_yes {α : Type} {f : List UInt8 → Option α} {u : List UInt8} {s : α} (h : f u = some s) (r : List (List UInt8)) : takeF f (u :: r) = (s :: (takeF f r).1, (takeF f r).2) := by rw [takeF, h]
theorem takeF_no {α : Type} {f : List UInt8 → Option α} {u : List UInt8} (h : f u = none) (r : List (List UInt8)) : takeF f (u :: r) = ([], u :: r) := by rw [takeF, h]
end Go.Proofs.YtamnfadngbbaeadDoor
