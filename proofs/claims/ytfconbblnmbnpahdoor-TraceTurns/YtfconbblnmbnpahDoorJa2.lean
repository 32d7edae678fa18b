/-
  PlanMath, KMath, KMath2, KTurnM, KTurnW, PlanBase, KTouchL, KVal, POpen, PortL, CloneOp, GClone, EvM, TrcC, TrcCR, TcWi, KSet, StRow, KerN, RLaid, TcRunN, TrTurns, FHold: joined into one text.
-/
import Derived.Test.YtfconbblnmbnpahDoorJa1
import Derived.Lib.SmallJoins
import Derived.Deep.Slices
import Derived.Deep.RegionLaw
import Derived.Deep.RegionWith
import Derived.Lib.SliceRun
import Derived.Deep.MidRow
import Derived.ProofKit
import Derived.LaidMore
import Derived.OpenShut
import Derived.Stop.Joined
import Derived.Stop.LaidErr
import Derived.Lib.LaidTab
import Derived.Deep.CutRange
namespace Go.Proofs.YtfconbblnmbnpahDoor

/-- A plan: the code of each room, ticks, spans, wires. -/
structure PD where
  code : List (List O3)
  ticks : Int
  spans : List S3
  wires : List W4
def PD.none : PD := ⟨[], 0, [], []⟩
/-- The fault of the first code that is wrong. -/
def codesE : List (List O3) → Int
  | [] => 0
  | c :: r => if (chk c).2 = 0 then codesE r else (chk c).2
/-- Is a wire none of a room's own? -/
def portB (at' : W4 → Int) (ws : List W4) (i : Nat) (k : Int) : Bool := match ws[k.toNat]? with
  | none => true
  | some x => !decide (at' x = (i : Int))
def portsB (ws : List W4) (i : Nat) (c : List O3) : Bool := (wiresB 8 c).any (portB (·.1) ws i) || (wiresB 9 c).any (portB (·.2.1) ws i)
def portsAny (ws : List W4) : Nat → List (List O3) → Bool
  | _, [] => false
  | i, c :: r => portsB ws i c || portsAny ws (i + 1) r
/-- Does a span name a room that has no code? -/
def spanOut (n : Nat) (s : S3) : Bool := decide ((n : Int) ≤ s.2.2)
def wireOut (n : Nat) (x : W4) : Bool := decide ((n : Int) ≤ x.1) || decide ((n : Int) ≤ x.2.1)
/-- The fault of a plan. -/
def plchk (p : PD) : Int :=
  if 5 < p.code.length then 4 else if p.code.length = 0 then 5 else
  if (fchk p.ticks p.spans).2 ≠ 0 then (fchk p.ticks p.spans).2 else
  if (wschk p.wires).2 ≠ 0 then (wschk p.wires).2 else
  if p.spans.any (spanOut p.code.length) = true then 1 else
  if p.wires.any (wireOut p.code.length) = true then 1 else
  if codesE p.code ≠ 0 then codesE p.code else
  if portsAny p.wires 0 p.code = true then 3 else 0
theorem plchk_long {p : PD} (h : 5 < p.code.length) : plchk p = 4 := by rw [plchk, if_pos h]
theorem plchk_none {p : PD} (h : p.code.length = 0) : plchk p = 5 := by rw [plchk, if_neg (by omega), if_pos h]
theorem plchk_frame {p : PD} (h1 : p.code.length ≤ 5) (h2 : p.code.length ≠ 0) (h3 : (fchk p.ticks p.spans).2 ≠ 0) : plchk p = (fchk p.ticks p.spans).2 := by rw [plchk, if_neg (by omega), if_neg h2, if_pos h3]
theorem plchk_wires {p : PD} (h1 : p.code.length ≤ 5) (h2 : p.code.length ≠ 0) (h3 : (fchk p.ticks p.spans).2 = 0) (h4 : (wschk p.wires).2 ≠ 0) : plchk p = (wschk p.wires).2 := by
  rw [plchk, if_neg (by omega), if_neg h2, if_neg (by simpa using h3), if_pos h4]
theorem plchk_span {p : PD} (h1 : p.code.length ≤ 5) (h2 : p.code.length ≠ 0) (h3 : (fchk p.ticks p.spans).2 = 0) (h4 : (wschk p.wires).2 = 0) (h5 : p.spans.any (spanOut p.code.length) = true) : plchk p = 1 := by
  rw [plchk, if_neg (by omega), if_neg h2, if_neg (by simpa using h3), if_neg (by simpa using h4), if_pos h5]
theorem plchk_wire {p : PD} (h1 : p.code.length ≤ 5) (h2 : p.code.length ≠ 0) (h3 : (fchk p.ticks p.spans).2 = 0) (h4 : (wschk p.wires).2 = 0) (h5 : p.spans.any (spanOut p.code.length) = false) (h6 : p.wires.any (wireOut p.code.length) = true) : plchk p = 1 := by
  rw [plchk, if_neg (by omega), if_neg h2, if_neg (by simpa using h3), if_neg (by simpa using h4), if_neg (by rw [h5]; decide), if_pos h6]
theorem plchk_tail {p : PD} (h1 : p.code.length ≤ 5) (h2 : p.code.length ≠ 0) (h3 : (fchk p.ticks p.spans).2 = 0) (h4 : (wschk p.wires).2 = 0) (h5 : p.spans.any (spanOut p.code.length) = false) (h6 : p.wires.any (wireOut p.code.length) = false) :
    plchk p = if codesE p.code ≠ 0 then codesE p.code else if portsAny p.wires 0 p.code = true then 3 else 0 := by
  rw [plchk, if_neg (by omega), if_neg h2, if_neg (by simpa using h3), if_neg (by simpa using h4), if_neg (by rw [h5]; decide), if_neg (by rw [h6]; decide)]
theorem plchk_zero {p : PD} (h : plchk p = 0) : p.code.length ≤ 5 ∧ p.code.length ≠ 0 ∧ (fchk p.ticks p.spans).2 = 0 ∧ (wschk p.wires).2 = 0 ∧ p.spans.any (spanOut p.code.length) = false ∧ p.wires.any (wireOut p.code.length) = false ∧ codesE p.code = 0 ∧ portsAny p.wires 0 p.code = false := by
  unfold plchk at h
  split at h
  · simp at h
  · rename_i h1
    split at h
    · simp at h
    · rename_i h2
      split at h
      · contradiction
      · rename_i h3
        split at h
        · contradiction
        · rename_i h4
          split at h
          · simp at h
          · rename_i h5
            split at h
            · simp at h
            · rename_i h6
              split at h
              · contradiction
              · rename_i h7
                split at h
                · simp at h
                · rename_i h8
                  exact ⟨by omega, h2, by simpa using h3, by simpa using h4, by simpa using h5, by simpa using h6, by simpa using h7, by simpa using h8⟩
theorem codesE_zero : ∀ {l : List (List O3)}, codesE l = 0 → ∀ c ∈ l, (chk c).2 = 0
  | [], _, c, hc => by simp at hc
  | x :: l, h, c, hc => by
    rw [codesE] at h
    by_cases hx : (chk x).2 = 0
    · rw [if_pos hx] at h
      rcases List.mem_cons.1 hc with rfl | hc
      · exact hx
      · exact codesE_zero h c hc
    · rw [if_neg hx] at h
      exact absurd h hx
theorem codesE_skip : ∀ (l : List (List O3)) (k : Nat), (∀ (j : Nat) c, j < k → l[j]? = some c → (chk c).2 = 0) → codesE l = codesE (l.drop k)
  | l, 0, _ => by simp
  | [], k + 1, _ => by simp
  | x :: l, k + 1, h => by
    have hx : (chk x).2 = 0 := h 0 x (by omega) rfl
    rw [codesE, if_pos hx, List.drop_succ_cons]
    exact codesE_skip l k (fun j c hj hc => h (j + 1) c (by omega) (by simpa using hc))
theorem codesE_hit {l : List (List O3)} {k : Nat} {c : List O3} (h : ∀ (j : Nat) c, j < k → l[j]? = some c → (chk c).2 = 0) (hc : l[k]? = some c) (hb : (chk c).2 ≠ 0) : codesE l = (chk c).2 := by
  rw [codesE_skip l k h]
  obtain ⟨hk, rfl⟩ := List.getElem?_eq_some_iff.1 hc
  rw [List.drop_eq_getElem_cons hk, codesE, if_neg hb]
theorem codesE_ok {l : List (List O3)} (h : ∀ (j : Nat) c, j < l.length → l[j]? = some c → (chk c).2 = 0) : codesE l = 0 := by
  rw [codesE_skip l l.length h]
  simp [codesE]
theorem portsAny_skip (ws : List W4) : ∀ (l : List (List O3)) (k i : Nat), (∀ (j : Nat) c, j < k → l[j]? = some c → portsB ws (i + j) c = false) → portsAny ws i l = portsAny ws (i + k) (l.drop k)
  | l, 0, i, _ => by simp
  | [], k + 1, i, _ => by simp [portsAny]
  | x :: l, k + 1, i, h => by
    have hx : portsB ws i x = false := h 0 x (by omega) rfl
    rw [portsAny, hx, Bool.false_or, List.drop_succ_cons, show i + (k + 1) = i + 1 + k by omega]
    exact portsAny_skip ws l k (i + 1) (fun j c hj hc => by rw [show i + 1 + j = i + (j + 1) by omega]; exact h (j + 1) c (by omega) (by simpa using hc))
theorem portsAny_hit {ws : List W4} {l : List (List O3)} {k : Nat} {c : List O3} (h : ∀ (j : Nat) c, j < k → l[j]? = some c → portsB ws j c = false) (hc : l[k]? = some c) (hb : portsB ws k c = true) : portsAny ws 0 l = true := by
  rw [portsAny_skip ws l k 0 (fun j c hj hx => by rw [Nat.zero_add]; exact h j c hj hx), Nat.zero_add]
  obtain ⟨hk, rfl⟩ := List.getElem?_eq_some_iff.1 hc
  rw [List.drop_eq_getElem_cons hk, portsAny, hb, Bool.true_or]
theorem portsAny_ok {ws : List W4} {l : List (List O3)} (h : ∀ (j : Nat) c, j < l.length → l[j]? = some c → portsB ws j c = false) : portsAny ws 0 l = false := by
  rw [portsAny_skip ws l l.length 0 (fun j c hj hx => by rw [Nat.zero_add]; exact h j c hj hx)]
  simp [portsAny]

/-! Lines. -/
def wFrame : List UInt8 := [102, 114, 97, 109, 101]
def wSpan : List UInt8 := [115, 112, 97, 110]
def wWire : List UInt8 := [119, 105, 114, 101]
def wRoom : List UInt8 := [114, 111, 111, 109]
def frameL (n : Int) : List UInt8 := wFrame ++ tail [n]
def spanL (s : S3) : List UInt8 := wSpan ++ tail [s.1, s.2.1, s.2.2]
def wireL (x : W4) : List UInt8 := wWire ++ tail [x.1, x.2.1, x.2.2.1, x.2.2.2]
/-- An op's line, without its end. -/
def opL (o : O3) : List UInt8 := nameB o.1 ++ tail (numsB o)
def roomL (c : List O3) : List (List UInt8) := wRoom :: c.map opL
/-- The lines of a plan, without their ends. -/
def planL (p : PD) : List (List UInt8) := frameL p.ticks :: (p.spans.map spanL ++ (p.wires.map wireL ++ p.code.flatMap roomL))
/-- Lines with their ends, as a text. -/
def endL (ls : List (List UInt8)) : List UInt8 := ls.flatMap (· ++ [10])
def planB (p : PD) : List UInt8 := endL (planL p)

/-! A text as a plan. -/
def spanOf (u : List UInt8) : Option S3 := match bodyB u with
  | some (p, [a, b, c]) => if p = wSpan then some (a, b, c) else none
  | _ => none
def wireOf (u : List UInt8) : Option W4 := match bodyB u with
  | some (p, [a, b, c, d]) => if p = wWire then some (a, b, c, d) else none
  | _ => none
def frameOf (u : List UInt8) : Option Int := match bodyB u with
  | some (p, [a]) => if p = wFrame then some a else none
  | _ => none
def takeF {α : Type} (f : List UInt8 → Option α) : List (List UInt8) → List α × List (List UInt8)
  | [] => ([], [])
  | u :: r => match f u with
    | none => ([], u :: r)
    | some s => (s :: (takeF f r).1, (takeF f r).2)
/-- One op more, of the last room. -/
def onto (acc : List (List O3)) (o : O3) : Option (List (List O3)) := match acc.getLast? with
  | none => none
  | some c => some (acc.dropLast ++ [c ++ [o]])
def roomsOf : List (List O3) → List (List UInt8) → Option (List (List O3))
  | acc, [] => some acc
  | acc, u :: r => if u = wRoom then roomsOf (acc ++ [[]]) r else match opRead (u ++ [10]) with
    | none => none
    | some o => match onto acc o with
      | none => none
      | some a => roomsOf a r
/-- Lines, without their ends, as a plan. -/
def planOf : List (List UInt8) → Option PD
  | [] => none
  | u :: r => match frameOf u with
    | none => none
    | some n => match roomsOf [] (takeF wireOf (takeF spanOf r).2).2 with
      | none => none
      | some cs => some ⟨cs, n, (takeF spanOf r).1, (takeF wireOf (takeF spanOf r).2).1⟩
/-- What is read, and the fault. -/
def planR (o : Option PD) : PD × Int := match o with
  | none => (PD.none, 2)
  | some p => if plchk p = 0 then (p, 0) else (PD.none, plchk p)
theorem planR_none : planR none = (PD.none, 2) := rfl
theorem planR_ok {p : PD} (h : plchk p = 0) : planR (some p) = (p, 0) := by
  show (if plchk p = 0 then (p, (0 : Int)) else (PD.none, plchk p)) = _
  rw [if_pos h]
theorem planR_bad {p : PD} (h : plchk p ≠ 0) : planR (some p) = (PD.none, plchk p) := by
  show (if plchk p = 0 then (p, (0 : Int)) else (PD.none, plchk p)) = _
  rw [if_neg h]
/-- A text as a plan, and the fault. -/
def planP (t : List UInt8) : PD × Int := if (cutB 10 t).getLast? = some [] then planR (planOf (cutB 10 t).dropLast) else (PD.none, 2)
theorem planP_open {t : List UInt8} {ps : List (List UInt8)} {q : List UInt8} (h : cutB 10 t = ps ++ [q]) (hq : q ≠ []) : planP t = (PD.none, 2) := by
  rw [planP, h, if_neg (by simpa using hq)]
theorem planP_shut {t : List UInt8} {ps : List (List UInt8)} (h : cutB 10 t = ps ++ [[]]) : planP t = planR (planOf ps) := by
  rw [planP, h, if_pos (by simp), List.dropLast_concat]
theorem takeF_yes {α : Type} {f : List UInt8 → Option α} {u : List UInt8} {s : α} (h : f u = some s) (r : List (List UInt8)) : takeF f (u :: r) = (s :: (takeF f r).1, (takeF f r).2) := by rw [takeF, h]
theorem takeF_no {α : Type} {f : List UInt8 → Option α} {u : List UInt8} (h : f u = none) (r : List (List UInt8)) : takeF f (u :: r) = ([], u :: r) := by rw [takeF, h]
end Go.Proofs.YtfconbblnmbnpahDoor
namespace Go.Proofs.YtfconbblnmbnpahDoor

/-- A line: its wire, what is there, what was lost. -/
structure LnD where
  w : W4
  xs : List Int
  ls : Int
def LnD.none : LnD := ⟨(0, 0, 0, 0), [], 0⟩
/-- What is there to be taken. -/
def headL (l : LnD) : Int × Bool := match l.xs with
  | [] => (0, false)
  | x :: _ => (x, true)
/-- Behind a take. -/
def restL (l : LnD) : LnD := match l.xs with
  | [] => l
  | _ :: ys => if l.w.2.2.1 = 2 then ⟨l.w, ys, l.ls⟩ else l
/-- Is what is sent there? -/
def fitL (l : LnD) : Bool := decide (l.w.2.2.1 = 1) || decide ((l.xs.length : Int) < l.w.2.2.2)
/-- Behind a send. -/
def putL (l : LnD) (n : Int) : LnD := if l.w.2.2.1 = 1 then ⟨l.w, [n], l.ls⟩ else if (l.xs.length : Int) < l.w.2.2.2 then ⟨l.w, l.xs ++ [n], l.ls⟩ else ⟨l.w, l.xs, l.ls + 1⟩
/-- A kernel: its rooms, its lines, its time. -/
structure KD where
  rooms : List St
  lines : List LnD
  time : Int
def stNew : St := ⟨0, fun _ => 0, false⟩
def newK (p : PD) : KD := ⟨p.code.map fun _ => stNew, p.wires.map fun x => ⟨x, [], 0⟩, 0⟩
def opAt (c : List O3) (s : St) : O3 := c.getD s.p.toNat (0, 0, 0)
def takesB (o : O3) (s : St) : Bool := !s.f && decide (o.1 = 9)
def lineAt (k : KD) (o : O3) : LnD := k.lines.getD o.2.2.toNat LnD.none
def gotK (k : KD) (o : O3) (s : St) : Int × Bool := if takesB o s = true then headL (lineAt k o) else (0, false)
/-- The lines behind what is taken. -/
def linesT (k : KD) (o : O3) (s : St) : List LnD := if takesB o s = true then k.lines.set o.2.2.toNat (restL (lineAt k o)) else k.lines
/-- .. and behind what is sent. -/
def linesS (ls : List LnD) (o : O3) (sent : Int) : List LnD := if 0 ≤ sent then ls.set o.2.2.toNat (putL (ls.getD o.2.2.toNat LnD.none) sent) else ls
/-- What came of it. -/
def cameK (ls : List LnD) (o : O3) (sent what : Int) : Int := if 0 ≤ sent ∧ fitL (ls.getD o.2.2.toNat LnD.none) = false then 3 else what
/-- A tick that a room has. -/
def turnK (p : PD) (k : KD) (r : Nat) : KD × Int × Int :=
  let c := p.code.getD r []
  let s := k.rooms.getD r stNew
  let o := opAt c s
  let g := gotK k o s
  (⟨k.rooms.set r (stepF o s c.length g.1 g.2), linesS (linesT k o s) o (sendF o s), k.time + 1⟩, s.p, cameK (linesT k o s) o (sendF o s) (whatF o s g.2))
/-- A tick; and what is told of it. -/
def tickK (p : PD) (sp : List S3) (k : KD) : KD × Int × Int × Int × Int :=
  let r := hold sp (k.time % p.ticks)
  if r < 0 then (⟨k.rooms, k.lines, k.time + 1⟩, k.time, r, 0, 0) else ((turnK p k r.toNat).1, k.time, r, (turnK p k r.toNat).2.1, (turnK p k r.toNat).2.2)

/-- A line that is right. -/
structure LnOk (l : LnD) (x : W4) : Prop where
  w : l.w = x
  xs : ∀ n ∈ l.xs, 0 ≤ n ∧ n ≤ 999
  one : x.2.2.1 = 1 → l.xs.length ≤ 1
  deep : x.2.2.1 = 2 → (l.xs.length : Int) ≤ x.2.2.2
  ls : 0 ≤ l.ls
/-- A kernel that is right. -/
structure KOk (p : PD) (k : KD) : Prop where
  rl : k.rooms.length = p.code.length
  ll : k.lines.length = p.wires.length
  rooms : ∀ (i : Nat) c s, p.code[i]? = some c → k.rooms[i]? = some s → stOk s c.length = true
  lines : ∀ (i : Nat) l x, k.lines[i]? = some l → p.wires[i]? = some x → LnOk l x
  lost : ∀ l ∈ k.lines, l.ls ≤ k.time + 10000000
  time : 0 ≤ k.time
theorem any_of_all {α : Type} {f : α → Bool} {l : List α} (h : l.any f = false) {x : α} (hx : x ∈ l) : f x = false := by
  rw [List.any_eq_false] at h
  simpa using h x hx
theorem wiresB_mem {what : Int} {c : List O3} {o : O3} (ho : o ∈ c) (h1 : o.1 = what) (h2 : 0 ≤ o.2.2) (h3 : o.2.2 < 12) : o.2.2 ∈ wiresB what c := by
  unfold wiresB pickN
  rw [List.mem_map]
  refine ⟨o.2.2.toNat, ?_, by simp; omega⟩
  rw [List.mem_filter, List.mem_range'_1]
  refine ⟨by omega, List.any_eq_true.2 ⟨o, ho, ?_⟩⟩
  simp [onW, h1]
  omega
theorem port_wire {at' : W4 → Int} {ws : List W4} {i : Nat} {z : Int} (h : portB at' ws i z = false) : ∃ x, ws[z.toNat]? = some x ∧ at' x = (i : Int) := by
  unfold portB at h
  cases hx : ws[z.toNat]? with
  | none => rw [hx] at h; cases h
  | some x =>
    rw [hx] at h
    exact ⟨x, rfl, by simpa using h⟩
theorem portsAny_false : ∀ {ws : List W4} {l : List (List O3)} {i : Nat}, portsAny ws i l = false → ∀ (j : Nat) c, l[j]? = some c → portsB ws (i + j) c = false
  | ws, [], i, _, j, c, hc => by simp at hc
  | ws, x :: l, i, h, j, c, hc => by
    rw [portsAny, Bool.or_eq_false_iff] at h
    cases j with
    | zero => simp at hc; subst hc; exact h.1
    | succ j =>
      have := portsAny_false h.2 j c (by simpa using hc)
      rw [show i + (j + 1) = i + 1 + j by omega]
      exact this
/-- What a right plan says of an op that sends, or takes. -/
theorem op_wire {p : PD} (h : plchk p = 0) {r : Nat} {c : List O3} {o : O3} (hc : p.code[r]? = some c) (ho : o ∈ c) : (o.1 = 8 → ∃ x, p.wires[o.2.2.toNat]? = some x ∧ x.1 = (r : Int)) ∧ (o.1 = 9 → ∃ x, p.wires[o.2.2.toNat]? = some x ∧ x.2.1 = (r : Int)) := by
  obtain ⟨_, _, _, _, _, _, hcd, hpt⟩ := plchk_zero h
  have hck := codesE_zero hcd c (List.mem_of_getElem? hc)
  obtain ⟨_, hl20, hok⟩ := chk_zero hck
  have hr := ok3_range (hok o ho)
  have hp := portsAny_false hpt r c hc
  rw [Nat.zero_add] at hp
  unfold portsB at hp
  rw [Bool.or_eq_false_iff] at hp
  refine ⟨fun h8 => ?_, fun h9 => ?_⟩
  · have hb : 0 ≤ o.2.2 ∧ o.2.2 < 12 := by simp [h8, bB] at hr; omega
    exact port_wire (any_of_all hp.1 (wiresB_mem ho h8 hb.1 hb.2))
  · have hb : 0 ≤ o.2.2 ∧ o.2.2 < 12 := by simp [h9, bB] at hr; omega
    exact port_wire (any_of_all hp.2 (wiresB_mem ho h9 hb.1 hb.2))
theorem new_ok {p : PD} (h : plchk p = 0) : KOk p (newK p) := by
  obtain ⟨_, _, _, hw, _, _, hcd, _⟩ := plchk_zero h
  refine ⟨by simp [newK], by simp [newK], fun i c s hc hs => ?_, fun i l x hl hx => ?_, fun l hl => ?_, by simp [newK]⟩
  · simp only [newK, List.getElem?_map, hc, Option.map_some, Option.some.injEq] at hs
    subst hs
    have hck := chk_zero (codesE_zero hcd c (List.mem_of_getElem? hc))
    rw [stOk_iff]
    have := hck.1
    exact ⟨by simp [stNew], by simp [stNew]; omega, fun i _ => by simp [stNew]⟩
  · simp only [newK, List.getElem?_map, hx, Option.map_some, Option.some.injEq] at hl
    subst hl
    have := (wschk_ok hw).2 x (List.mem_of_getElem? hx)
    refine ⟨rfl, fun n hn => by simp at hn, fun _ => by simp, fun h2 => ?_, by simp⟩
    rcases wchk_kind this with ⟨h1, _⟩ | ⟨_, h3, _⟩
    · omega
    · simp
      omega
  · simp only [newK, List.mem_map] at hl
    obtain ⟨x, _, rfl⟩ := hl
    simp [newK]
end Go.Proofs.YtfconbblnmbnpahDoor
namespace Go.Proofs.YtfconbblnmbnpahDoor

theorem headL_ok {l : LnD} {x : W4} (h : LnOk l x) : (headL l).2 = true → 0 ≤ (headL l).1 ∧ (headL l).1 ≤ 999 := by
  unfold headL
  intro hh
  cases hx : l.xs with
  | nil => rw [hx] at hh; cases hh
  | cons n ys => exact h.xs n (by rw [hx]; simp)
theorem restL_ok {l : LnD} {x : W4} (h : LnOk l x) : LnOk (restL l) x := by
  unfold restL
  cases hx : l.xs with
  | nil => exact h
  | cons n ys =>
    simp only
    split
    · refine ⟨h.w, fun m hm => h.xs m (by rw [hx]; simp [hm]), fun h1 => ?_, fun h2 => ?_, h.ls⟩
      · have := h.one h1
        rw [hx, List.length_cons] at this
        simp only
        omega
      · have := h.deep h2
        rw [hx, List.length_cons] at this
        simp only
        omega
    · exact h
theorem restL_ls (l : LnD) : (restL l).ls = l.ls := by
  unfold restL
  split
  · rfl
  · split <;> rfl
theorem putL_ok {l : LnD} {x : W4} {n : Int} (h : LnOk l x) (hn : 0 ≤ n ∧ n ≤ 999) : LnOk (putL l n) x := by
  unfold putL
  split
  · rename_i h1
    rw [h.w] at h1
    exact ⟨h.w, fun m hm => by simp at hm; subst hm; exact hn, fun _ => by simp, fun h2 => by omega, h.ls⟩
  · rename_i h1
    rw [h.w] at h1
    split
    · rename_i h2
      rw [h.w] at h2
      refine ⟨h.w, fun m hm => ?_, fun h3 => absurd h3 h1, fun _ => by simp; omega, h.ls⟩
      rcases List.mem_append.1 hm with hm | hm
      · exact h.xs m hm
      · simp at hm; subst hm; exact hn
    · exact ⟨h.w, h.xs, fun h3 => absurd h3 h1, h.deep, by have := h.ls; simp; omega⟩
theorem putL_ls (l : LnD) (n : Int) : (putL l n).ls ≤ l.ls + 1 := by
  unfold putL
  split
  · simp only
    omega
  · split
    · simp only
      omega
    · simp
/-- Lines of which one is another one. -/
theorem lines_set {ls : List LnD} {ws : List W4} {j : Nat} {l' : LnD} (h : ∀ (i : Nat) l x, ls[i]? = some l → ws[i]? = some x → LnOk l x) (h' : ∀ x, ws[j]? = some x → LnOk l' x) : ∀ (i : Nat) l x, (ls.set j l')[i]? = some l → ws[i]? = some x → LnOk l x := fun i l x hl hx => by
  by_cases hij : j = i
  · subst hij
    have hlt : j < ls.length := by
      have := (List.getElem?_eq_some_iff.1 hl).1
      simpa using this
    rw [List.getElem?_set_self hlt] at hl
    obtain rfl := Option.some.inj hl
    exact h' x hx
  · rw [List.getElem?_set_ne hij] at hl
    exact h i l x hl hx
structure Turn (p : PD) (k : KD) (r : Nat) (c : List O3) (s : St) (o : O3) : Prop where
  hc : p.code[r]? = some c
  hs : k.rooms[r]? = some s
  ho : c[s.p.toNat]? = some o
  ck : (chk c).2 = 0
  st : stOk s c.length = true
  ok : ok3 c.length o = true
theorem turn_of {p : PD} {k : KD} (h : plchk p = 0) (hk : KOk p k) {r : Nat} (hr : r < p.code.length) : ∃ c s o, Turn p k r c s o := by
  obtain ⟨_, _, _, _, _, _, hcd, _⟩ := plchk_zero h
  have hc : p.code[r]? = some p.code[r] := List.getElem?_eq_getElem hr
  have hs : k.rooms[r]? = some (k.rooms[r]'(by rw [hk.rl]; exact hr)) := List.getElem?_eq_getElem _
  have hck := codesE_zero hcd _ (List.mem_of_getElem? hc)
  have hst := hk.rooms r _ _ hc hs
  have hp := stOk_iff.1 hst
  have hlt : (k.rooms[r]'(by rw [hk.rl]; exact hr)).p.toNat < p.code[r].length := by omega
  exact ⟨_, _, _, hc, hs, List.getElem?_eq_getElem hlt, hck, hst, (chk_zero hck).2.2 _ (List.getElem_mem hlt)⟩
theorem Turn.at {p : PD} {k : KD} {r : Nat} {c : List O3} {s : St} {o : O3} (h : Turn p k r c s o) : p.code.getD r [] = c ∧ k.rooms.getD r stNew = s ∧ opAt c s = o := by
  unfold opAt
  simp [List.getD, h.hc, h.hs, h.ho]
/-- What is there to be taken is a number of a room. -/
theorem got_ok {p : PD} {k : KD} (hp : plchk p = 0) (hk : KOk p k) {r : Nat} {c : List O3} {s : St} {o : O3} (h : Turn p k r c s o) : (gotK k o s).2 = true → 0 ≤ (gotK k o s).1 ∧ (gotK k o s).1 ≤ 999 := by
  unfold gotK
  split
  · rename_i ht
    unfold takesB at ht
    simp only [Bool.and_eq_true, decide_eq_true_eq] at ht
    obtain ⟨x, hx, _⟩ := (op_wire hp h.hc (List.mem_of_getElem? h.ho)).2 ht.2
    have hlt : o.2.2.toNat < k.lines.length := by rw [hk.ll]; exact (List.getElem?_eq_some_iff.1 hx).1
    have hl : k.lines[o.2.2.toNat]? = some k.lines[o.2.2.toNat] := List.getElem?_eq_getElem hlt
    have e : lineAt k o = k.lines[o.2.2.toNat] := by simp [lineAt, List.getD, hl]
    rw [e]
    exact headL_ok (hk.lines _ _ _ hl hx)
  · intro hh; cases hh
theorem stepK_ok {p : PD} {k : KD} {r : Nat} {c : List O3} {s : St} {o : O3} (h : Turn p k r c s o) {got : Int} {is : Bool} (hg : is = true → 0 ≤ got ∧ got ≤ 999) : stOk (stepF o s c.length got is) c.length = true := by
  have hp := stOk_iff.1 h.st
  have hr := ok3_range h.ok
  unfold stepF
  split
  · exact h.st
  · rw [stOk_iff]
    have hn := nextF_ok (o := o) (s := s) (n := c.length) (is := is) hp.1 hp.2.1 (fun hh => by rcases hh with h6 | h7 <;> simp_all [bB])
    refine ⟨hn.1, hn.2, cellsF_ok hp.2.2 (fun h1 => by simp [h1, bB] at hr; omega) (fun h2 => by simp [h2, bB] at hr; omega) hg⟩
theorem sendK_range {p : PD} {k : KD} {r : Nat} {c : List O3} {s : St} {o : O3} (h : Turn p k r c s o) : -1 ≤ sendF o s ∧ sendF o s ≤ 999 ∧ (0 ≤ sendF o s → o.1 = 8 ∧ s.f = false) := by
  have hp := stOk_iff.1 h.st
  have hs := ok3_small (o := o) (ops := c.length) (by have := (chk_zero h.ck).2.1; omega) h.ok
  unfold sendF
  split
  · exact ⟨by omega, by omega, fun hh => by omega⟩
  · rename_i hf
    have := sentF_ok (o := o) hp.2.2 (by omega)
    exact ⟨this.1, this.2, fun hh => ⟨sentF_send hh, by simpa using hf⟩⟩
theorem linesT_ok {p : PD} {k : KD} (hk : KOk p k) (o : O3) (s : St) : (linesT k o s).length = p.wires.length ∧ (∀ (i : Nat) l x, (linesT k o s)[i]? = some l → p.wires[i]? = some x → LnOk l x) ∧ ∀ l ∈ linesT k o s, l.ls ≤ k.time + 10000000 := by
  unfold linesT
  split
  · refine ⟨by rw [List.length_set]; exact hk.ll, lines_set hk.lines (fun x hx => ?_), fun l hl => ?_⟩
    · have hlt : o.2.2.toNat < k.lines.length := by rw [hk.ll]; exact (List.getElem?_eq_some_iff.1 hx).1
      have hl : k.lines[o.2.2.toNat]? = some k.lines[o.2.2.toNat] := List.getElem?_eq_getElem hlt
      have e : lineAt k o = k.lines[o.2.2.toNat] := by simp [lineAt, List.getD, hl]
      rw [e]
      exact restL_ok (hk.lines _ _ _ hl hx)
    · rcases List.mem_or_eq_of_mem_set hl with h1 | h1
      · exact hk.lost l h1
      · rw [h1, restL_ls]
        unfold lineAt
        rw [List.getD]
        cases hx : k.lines[o.2.2.toNat]? with
        | none =>
          have := hk.time
          show (0 : Int) ≤ _
          omega
        | some y => exact hk.lost y (List.mem_of_getElem? hx)
  · exact ⟨hk.ll, hk.lines, hk.lost⟩
theorem turn_ok {p : PD} {k : KD} (hp : plchk p = 0) (hk : KOk p k) {r : Nat} (hr : r < p.code.length) : KOk p (turnK p k r).1 := by
  obtain ⟨c, s, o, h⟩ := turn_of hp hk hr
  obtain ⟨e1, e2, e3⟩ := h.at
  obtain ⟨t1, t2, t3⟩ := linesT_ok hk o s
  have hsr := sendK_range h
  unfold turnK
  simp only [e1, e2, e3]
  refine ⟨by simp [hk.rl], ?_, fun i c' s' hc' hs' => ?_, ?_, ?_, by have := hk.time; simp; omega⟩
  · simp only
    unfold linesS
    split <;> simp [t1]
  · simp only at hs'
    by_cases hir : r = i
    · subst hir
      rw [List.getElem?_set_self (by rw [hk.rl]; exact hr)] at hs'
      obtain rfl := Option.some.inj hs'
      rw [h.hc] at hc'
      obtain rfl := Option.some.inj hc'
      exact stepK_ok h (got_ok hp hk h)
    · rw [List.getElem?_set_ne hir] at hs'
      exact hk.rooms i c' s' hc' hs'
  · simp only
    unfold linesS
    split
    · rename_i h0
      refine lines_set t2 (fun x hx => ?_)
      have hlt : o.2.2.toNat < (linesT k o s).length := by rw [t1]; exact (List.getElem?_eq_some_iff.1 hx).1
      have hl : (linesT k o s)[o.2.2.toNat]? = some (linesT k o s)[o.2.2.toNat] := List.getElem?_eq_getElem hlt
      have e : (linesT k o s).getD o.2.2.toNat LnD.none = (linesT k o s)[o.2.2.toNat] := by simp [List.getD, hl]
      rw [e]
      exact putL_ok (t2 _ _ _ hl hx) ⟨h0, hsr.2.1⟩
    · exact t2
  · simp only
    intro l hl
    unfold linesS at hl
    split at hl
    · rcases List.mem_or_eq_of_mem_set hl with h1 | h1
      · have := t3 l h1
        omega
      · have h2 := putL_ls ((linesT k o s).getD o.2.2.toNat LnD.none) (sendF o s)
        rw [← h1] at h2
        rw [List.getD] at h2
        cases hx : (linesT k o s)[o.2.2.toNat]? with
        | none => rw [hx] at h2; have := hk.time; simp [LnD.none] at h2; omega
        | some y => rw [hx] at h2; have := t3 y (List.mem_of_getElem? hx); simp at h2; omega
    · have := t3 l hl
      omega
theorem who_room {p : PD} (hp : plchk p = 0) (t : Int) : -1 ≤ hold p.spans t ∧ (0 ≤ hold p.spans t → (hold p.spans t).toNat < p.code.length) := by
  obtain ⟨_, _, hf, _, hs, _, _, _⟩ := plchk_zero hp
  have hr := hold_range (t := t) (fchk_zero hf).2.2.2.1
  refine ⟨hr.1, fun h0 => ?_⟩
  cases hi : p.spans.findIdx? (hits t) with
  | none => rw [hold_none hi] at h0; omega
  | some i =>
    have hi' := hi
    rw [List.findIdx?_eq_some_iff_getElem] at hi'
    obtain ⟨hlt, _⟩ := hi'
    have hg : p.spans[i]? = some p.spans[i] := List.getElem?_eq_getElem hlt
    rw [hold_some hi hg] at h0 ⊢
    have := any_of_all hs (List.mem_of_getElem? hg)
    simp [spanOut] at this
    omega
theorem tick_ok {p : PD} {k : KD} (hp : plchk p = 0) (hk : KOk p k) : KOk p (tickK p p.spans k).1 := by
  have hw := who_room hp (k.time % p.ticks)
  unfold tickK
  simp only
  split
  · exact ⟨hk.rl, hk.ll, hk.rooms, hk.lines, fun l hl => by have := hk.lost l hl; simp; omega, by have := hk.time; simp; omega⟩
  · exact turn_ok hp hk (hw.2 (by omega))
theorem tick_time (p : PD) (sp : List S3) (k : KD) : (tickK p sp k).1.time = k.time + 1 := by
  unfold tickK
  simp only
  split <;> rfl
end Go.Proofs.YtfconbblnmbnpahDoor
namespace Go.Proofs.YtfconbblnmbnpahDoor

/-- A kernel behind so many ticks. -/
def kT (p : PD) : Nat → KD
  | 0 => newK p
  | t + 1 => (tickK p p.spans (kT p t)).1
theorem kT_time (p : PD) : ∀ t, (kT p t).time = t
  | 0 => rfl
  | t + 1 => by
    show (tickK p p.spans (kT p t)).1.time = _
    rw [tick_time, kT_time p t]
    omega
theorem kT_ok {p : PD} (hp : plchk p = 0) : ∀ t, KOk p (kT p t)
  | 0 => new_ok hp
  | t + 1 => tick_ok hp (kT_ok hp t)
/-- Whose turn it is. -/
def whoK (p : PD) (k : KD) : Int := hold p.spans (k.time % p.ticks)
theorem tick_told (p : PD) (k : KD) : (tickK p p.spans k).2.1 = k.time ∧ (tickK p p.spans k).2.2.1 = whoK p k := by
  unfold tickK whoK
  simp only
  split
  · exact ⟨rfl, rfl⟩
  · exact ⟨rfl, rfl⟩
/-- No room but the one whose turn it is. -/
theorem tick_room {p : PD} {k : KD} {r : Nat} (hr : (r : Int) ≠ whoK p k) : (tickK p p.spans k).1.rooms[r]? = k.rooms[r]? := by
  unfold whoK at hr
  unfold tickK
  simp only
  split
  · rfl
  · rename_i h
    show (k.rooms.set _ _)[r]? = _
    rw [List.getElem?_set_ne (by omega)]
/-- No wire but those of it. -/
theorem tick_line {p : PD} {k : KD} (hp : plchk p = 0) (hk : KOk p k) {i : Nat} {x : W4} (hx : p.wires[i]? = some x) (h1 : x.1 ≠ whoK p k) (h2 : x.2.1 ≠ whoK p k) : (tickK p p.spans k).1.lines[i]? = k.lines[i]? := by
  have hw := (who_room hp (k.time % p.ticks)).2
  unfold whoK at h1 h2
  unfold tickK
  simp only
  split
  · rfl
  · rename_i h
    obtain ⟨rn, hrn⟩ : ∃ n : Nat, hold p.spans (k.time % p.ticks) = n := ⟨(hold p.spans (k.time % p.ticks)).toNat, by omega⟩
    rw [hrn] at h1 h2 hw ⊢
    have hlt : rn < p.code.length := by simpa using hw (by omega)
    obtain ⟨c, s, o, ht⟩ := turn_of hp hk hlt
    obtain ⟨e1, e2, e3⟩ := ht.at
    rw [Int.toNat_natCast]
    unfold turnK
    simp only [e1, e2, e3]
    have hop := op_wire hp ht.hc (List.mem_of_getElem? ht.ho)
    have hT : (linesT k o s)[i]? = k.lines[i]? := by
      unfold linesT
      split
      · rename_i htk
        have h9 : o.1 = 9 := by
          unfold takesB at htk
          simp only [Bool.and_eq_true, decide_eq_true_eq] at htk
          exact htk.2
        obtain ⟨y, hy, hy2⟩ := hop.2 h9
        refine List.getElem?_set_ne (fun e => ?_)
        rw [e, hx] at hy
        obtain rfl := Option.some.inj hy
        exact h2 hy2
      · rfl
    rw [← hT]
    unfold linesS
    split
    · rename_i hs
      have h8 := ((sendK_range ht).2.2 hs).1
      obtain ⟨y, hy, hy2⟩ := hop.1 h8
      refine List.getElem?_set_ne (fun e => ?_)
      rw [e, hx] at hy
      obtain rfl := Option.some.inj hy
      exact h1 hy2
    · rfl
end Go.Proofs.YtfconbblnmbnpahDoor
namespace Go.Proofs.YtfconbblnmbnpahDoor

theorem set_same {α : Type} {l : List α} {i : Nat} {x : α} (h : l[i]? = some x) : l.set i x = l := by
  apply List.ext_getElem?
  intro j
  rw [List.getElem?_set]
  by_cases hij : i = j
  · subst hij
    rw [if_pos rfl, if_pos (List.getElem?_eq_some_iff.1 h).1, h]
  · simp [hij]
/-- It had failed ahead. -/
theorem turn_failed {p : PD} {k : KD} {r : Nat} {c : List O3} {s : St} {o : O3} (h : Turn p k r c s o) (hf : s.f = true) : turnK p k r = (⟨k.rooms, k.lines, k.time + 1⟩, s.p, 5) := by
  obtain ⟨e1, e2, e3⟩ := h.at
  have ht : takesB o s = false := by unfold takesB; rw [hf]; rfl
  have hs : sendF o s = -1 := by unfold sendF; rw [hf, if_pos rfl]
  unfold turnK
  simp only [e1, e2, e3]
  unfold linesS cameK linesT gotK
  rw [ht, hs]
  simp only [Bool.false_eq_true, if_false, show ¬ ((0 : Int) ≤ -1) by omega, false_and]
  unfold stepF whatF
  rw [hf, if_pos rfl, if_pos rfl, set_same h.hs]
/-- It takes, and there is something. -/
theorem turn_takes {p : PD} {k : KD} {r : Nat} {c : List O3} {s : St} {o : O3} (h : Turn p k r c s o) (hf : s.f = false) (h9 : o.1 = 9) {l : LnD} (hl : k.lines[o.2.2.toNat]? = some l) (hh : (headL l).2 = true) :
    turnK p k r = (⟨k.rooms.set r (stepF o s c.length (headL l).1 true), k.lines.set o.2.2.toNat (restL l), k.time + 1⟩, s.p, 2) := by
  obtain ⟨e1, e2, e3⟩ := h.at
  have ht : takesB o s = true := by unfold takesB; rw [hf, h9]; rfl
  have hs : sendF o s = -1 := by unfold sendF sentF; rw [hf, if_neg (by decide), if_neg (by omega)]
  have hla : lineAt k o = l := by simp [lineAt, List.getD, hl]
  unfold turnK
  simp only [e1, e2, e3]
  unfold linesS cameK linesT gotK
  rw [ht, hs, hla]
  simp only [if_true, show ¬ ((0 : Int) ≤ -1) by omega, if_false, false_and, hh]
  unfold whatF
  rw [hf, if_neg (by decide), if_neg (by omega), if_pos h9, if_pos rfl]
/-- It takes, and there is nothing. -/
theorem turn_waits {p : PD} {k : KD} {r : Nat} {c : List O3} {s : St} {o : O3} (h : Turn p k r c s o) (hf : s.f = false) (h9 : o.1 = 9) {l : LnD} (hl : k.lines[o.2.2.toNat]? = some l) (hh : (headL l).2 = false) :
    turnK p k r = (⟨k.rooms.set r (stepF o s c.length 0 false), k.lines, k.time + 1⟩, s.p, 3) := by
  obtain ⟨e1, e2, e3⟩ := h.at
  have ht : takesB o s = true := by unfold takesB; rw [hf, h9]; rfl
  have hs : sendF o s = -1 := by unfold sendF sentF; rw [hf, if_neg (by decide), if_neg (by omega)]
  have hla : lineAt k o = l := by simp [lineAt, List.getD, hl]
  have hx : l.xs = [] := by
    unfold headL at hh
    split at hh
    · assumption
    · cases hh
  have hhd : headL l = (0, false) := by unfold headL; rw [hx]
  have hre : restL l = l := by unfold restL; rw [hx]
  unfold turnK
  simp only [e1, e2, e3]
  unfold linesS cameK linesT gotK
  rw [ht, hs, hla, hre, hhd]
  simp only [if_true, show ¬ ((0 : Int) ≤ -1) by omega, if_false, false_and]
  rw [set_same hl]
  unfold whatF
  rw [hf, if_neg (by decide), if_neg (by omega), if_pos h9, if_neg (by decide)]
/-- It sends. -/
theorem turn_sends {p : PD} {k : KD} {r : Nat} {c : List O3} {s : St} {o : O3} (h : Turn p k r c s o) (hf : s.f = false) (h8 : o.1 = 8) {l : LnD} (hl : k.lines[o.2.2.toNat]? = some l) :
    turnK p k r = (⟨k.rooms.set r (stepF o s c.length 0 false), k.lines.set o.2.2.toNat (putL l (s.c o.2.1.toNat)), k.time + 1⟩, s.p, if fitL l = true then 1 else 3) := by
  obtain ⟨e1, e2, e3⟩ := h.at
  have ht : takesB o s = false := by unfold takesB; rw [hf, h8]; rfl
  have hs : sendF o s = s.c o.2.1.toNat := by unfold sendF sentF; rw [hf, if_neg (by decide), if_pos h8]
  have h0 : 0 ≤ s.c o.2.1.toNat := by
    have hr := (ok3_range h.ok).2.2
    have hb := (bA_le o.1).2
    have := (stOk_iff.1 h.st).2.2 o.2.1.toNat (by omega)
    exact this.1
  unfold turnK
  simp only [e1, e2, e3]
  unfold linesS cameK linesT gotK
  rw [ht, hs]
  simp only [Bool.false_eq_true, if_false, if_pos h0, List.getD, hl, Option.getD_some]
  have hw : whatF o s false = 1 := by unfold whatF; rw [hf, if_neg (by decide), if_pos h8]
  rw [hw]
  cases hfl : fitL l with
  | true => rw [if_neg (fun e => by cases e.2), if_pos rfl]
  | false => rw [if_pos ⟨h0, rfl⟩, if_neg (by decide)]
/-- It does none of these. -/
theorem turn_else {p : PD} {k : KD} {r : Nat} {c : List O3} {s : St} {o : O3} (h : Turn p k r c s o) (hf : s.f = false) (h8 : o.1 ≠ 8) (h9 : o.1 ≠ 9) :
    turnK p k r = (⟨k.rooms.set r (stepF o s c.length 0 false), k.lines, k.time + 1⟩, s.p, if o.1 = 11 then 4 else 0) := by
  obtain ⟨e1, e2, e3⟩ := h.at
  have ht : takesB o s = false := by unfold takesB; rw [hf]; simp [h9]
  have hs : sendF o s = -1 := by unfold sendF sentF; rw [hf, if_neg (by decide), if_neg h8]
  unfold turnK
  simp only [e1, e2, e3]
  unfold linesS cameK linesT gotK
  rw [ht, hs]
  simp only [Bool.false_eq_true, if_false, show ¬ ((0 : Int) ≤ -1) by omega, false_and]
  unfold whatF
  rw [hf, if_neg (by decide), if_neg h8, if_neg h9]
end Go.Proofs.YtfconbblnmbnpahDoor
namespace Go.Proofs.YtfconbblnmbnpahDoor
open Go.RowKit

/-- Codes that can be read. -/
def Cds (w : World) (v : Value) (cs : List (List O3)) : Prop :=
  (cs = [] ∧ ∃ ao cap, v = .slice ao 0 cap) ∨ ∃ b off cap, v = .slice (some ⟨b, off, none⟩) cs.length cap ∧ cs.length ≤ cap ∧ b < w.heap.size ∧ ∀ (i : Nat) c, cs[i]? = some c → ∃ u, w.cell? ⟨b, off + i, none⟩ = some u ∧ Ops w u c
theorem Cds.all {w w' : World} {v : Value} {cs : List (List O3)} (h : Cds w v cs) (hb : Below w.heap.size w w') : Cds w' v cs := by
  rcases h with h | ⟨b, off, cap, rfl, hcap, hlt, hc⟩
  · exact Or.inl h
  · refine Or.inr ⟨b, off, cap, rfl, hcap, Nat.lt_of_lt_of_le hlt hb.size, fun i c hi => ?_⟩
    obtain ⟨u, h1, h2⟩ := hc i c hi
    exact ⟨u, (hb.cell (p := ⟨b, _, none⟩) hlt).trans h1, h2.all hb⟩
theorem Cds.form {w : World} {v : Value} {cs : List (List O3)} (h : Cds w v cs) : ∃ ao cap, v = .slice ao cs.length cap := by
  rcases h with ⟨rfl, ao, cap, rfl⟩ | ⟨b, off, cap, rfl, _⟩
  · exact ⟨ao, cap, rfl⟩
  · exact ⟨_, cap, rfl⟩
theorem Cds.at {w : World} {ao : Option Addr} {cap : Nat} {cs : List (List O3)} (h : Cds w (.slice ao cs.length cap) cs) {i : Nat} (hi : i < cs.length) : ∃ b off u n g c, ao = some ⟨b, off, none⟩ ∧ b < w.heap.size ∧ cs[i]? = some c ∧ w.cell? ⟨b, off + i, none⟩ = some (.slice u n g) ∧ n = c.length ∧ Ops w (.slice u n g) c := by
  rcases h with ⟨rfl, _⟩ | ⟨b, off, cap', e, _, hlt, hc⟩
  · simp at hi
  · injection e with e1
    obtain ⟨u, h1, h2⟩ := hc i _ (List.getElem?_eq_getElem hi)
    obtain ⟨ua, uc, rfl⟩ := h2.form
    exact ⟨b, off, ua, _, uc, _, e1, hlt, List.getElem?_eq_getElem hi, h1, rfl, h2⟩
theorem Sps.at {w : World} {ao : Option Addr} {cap : Nat} {l : List S3} (h : Sps w (.slice ao l.length cap) l) {i : Nat} (hi : i < l.length) : ∃ b off f t r, ao = some ⟨b, off, none⟩ ∧ b < w.heap.size ∧ l[i]? = some (f, t, r) ∧ w.cell? ⟨b, off + i * 3, none⟩ = some (.int .i64 f) ∧ w.cell? ⟨b, off + i * 3 + 1, none⟩ = some (.int .i64 t) ∧ w.cell? ⟨b, off + i * 3 + 2, none⟩ = some (.int .i64 r) := by
  rcases h with ⟨rfl, _⟩ | ⟨b, off, cap', e, _, hlt, hc⟩
  · simp at hi
  · injection e with e1
    obtain ⟨⟨f, t, r⟩, hx'⟩ : ∃ x : S3, l[i]? = some x := ⟨l[i], List.getElem?_eq_getElem hi⟩
    obtain ⟨h0, h1, h2⟩ := hc i _ hx'
    exact ⟨b, off, f, t, r, e1, hlt, hx', h0, h1, h2⟩
/-- A plan's parts can be read. -/
structure Pln (w : World) (vc vs vw : Value) (p : PD) : Prop where
  code : Cds w vc p.code
  spans : Sps w vs p.spans
  wires : Wrs w vw p.wires
theorem Pln.all {w w' : World} {vc vs vw : Value} {p : PD} (h : Pln w vc vs vw p) (hb : Below w.heap.size w w') : Pln w' vc vs vw p := ⟨h.code.all hb, h.spans.all hb, h.wires.all hb⟩
/-- A plan as a value. -/
def plV (vc : Value) (n : Int) (vs vw : Value) : Value := .agg #[vc, .int .i64 n, vs, vw]
/-- Behind the box of a plan. -/
def Bx (w W : World) (vc : Value) (n : Int) (vs vw : Value) : Prop := Below (w.heap.size + 1) (w.alloc (.cells #[vc, .int .i64 n, vs, vw] 34)) W
theorem Bx.first (w : World) (vc : Value) (n : Int) (vs vw : Value) : Bx w (w.alloc (.cells #[vc, .int .i64 n, vs, vw] 34)) vc n vs vw := Below.refl _ _
theorem Bx.size {w W : World} {vc vs vw : Value} {n : Int} (h : Bx w W vc n vs vw) : w.heap.size + 1 ≤ W.heap.size := by
  have := Below.size h
  simpa using this
theorem Bx.step {w W W' : World} {vc vs vw : Value} {n : Int} (h : Bx w W vc n vs vw) (hb : Below W.heap.size W W') : Bx w W' vc n vs vw := Below.trans h (hb.mono h.size)
theorem Bx.dN {w W : World} {vc vs vw : Value} {n : Int} (h : Bx w W vc n vs vw) (k : Nat) : Bx w (W.drewN k) vc n vs vw := below_dN h k
theorem Bx.below {w W : World} {vc vs vw : Value} {n : Int} (h : Bx w W vc n vs vw) : Below w.heap.size w W := ((Below.refl _ _).alloc (Nat.le_refl _) _).trans (Below.mono h (Nat.le_succ _))
theorem Bx.c0 {w W : World} {vc vs vw : Value} {n : Int} (h : Bx w W vc n vs vw) : W.cell? ⟨w.heap.size, 0, none⟩ = some vc := (Below.cell h (p := ⟨w.heap.size, 0, none⟩) (by simp)).trans (by simp)
theorem Bx.c1 {w W : World} {vc vs vw : Value} {n : Int} (h : Bx w W vc n vs vw) : W.cell? ⟨w.heap.size, 1, none⟩ = some (.int .i64 n) := (Below.cell h (p := ⟨w.heap.size, 1, none⟩) (by simp)).trans (by simp)
theorem Bx.c2 {w W : World} {vc vs vw : Value} {n : Int} (h : Bx w W vc n vs vw) : W.cell? ⟨w.heap.size, 2, none⟩ = some vs := (Below.cell h (p := ⟨w.heap.size, 2, none⟩) (by simp)).trans (by simp)
theorem Bx.c3 {w W : World} {vc vs vw : Value} {n : Int} (h : Bx w W vc n vs vw) : W.cell? ⟨w.heap.size, 3, none⟩ = some vw := (Below.cell h (p := ⟨w.heap.size, 3, none⟩) (by simp)).trans (by simp)
theorem any_false {α : Type} {f : α → Bool} {l : List α} (h : ∀ (j : Nat) y, j < l.length → l[j]? = some y → f y = false) : l.any f = false := by
  rw [List.any_eq_false]
  intro x hx
  obtain ⟨j, hj⟩ := List.mem_iff_getElem?.1 hx
  rw [h j x (List.getElem?_eq_some_iff.1 hj).1 hj]
  simp
theorem any_hit {α : Type} {f : α → Bool} {l : List α} {k : Nat} {x : α} (h : l[k]? = some x) (hf : f x = true) : l.any f = true := List.any_eq_true.2 ⟨x, List.mem_of_getElem? h, hf⟩
/-- One more that is not. -/
theorem upto_next {α : Type} {f : α → Bool} {l : List α} {k : Nat} {x : α} (h : ∀ (j : Nat) y, j < k → l[j]? = some y → f y = false) (hx : l[k]? = some x) (hf : f x = false) : ∀ (j : Nat) y, j < k + 1 → l[j]? = some y → f y = false := fun j y hj hy => by
  by_cases hjk : j < k
  · exact h j y hjk hy
  · obtain rfl : j = k := by omega
    rw [hx] at hy
    obtain rfl := Option.some.inj hy
    exact hf
/-- A plan whose parts all lie from a block on: it stays where only what lies before it is written. -/
def PlnF (B : Nat) (w : World) (vc vs vw : Value) (p : PD) : Prop := ∀ w', w.heap.size ≤ w'.heap.size → (∀ b o, B ≤ b → w'.cell? ⟨b, o, none⟩ = w.cell? ⟨b, o, none⟩) → Pln w' vc vs vw p
theorem PlnF.here {B : Nat} {w : World} {vc vs vw : Value} {p : PD} (h : PlnF B w vc vs vw p) : Pln w vc vs vw p := h w (Nat.le_refl _) (fun _ _ _ => rfl)
end Go.Proofs.YtfconbblnmbnpahDoor
namespace Go.Proofs.YtfconbblnmbnpahDoor
open Go.RowKit

/-- What a call leaves alone: all blocks that were there, but those that are named. -/
structure KTouch (M : List Nat) (w w' : World) : Prop where
  os : w'.os = w.os
  tape : w'.tape = w.tape
  output : w'.output = w.output
  size : w.heap.size ≤ w'.heap.size
  block : ∀ k, k < w.heap.size → k ∉ M → w'.heap[k]? = w.heap[k]?
theorem KTouch.refl (M : List Nat) (w : World) : KTouch M w w := ⟨rfl, rfl, rfl, Nat.le_refl _, fun _ _ _ => rfl⟩
theorem KTouch.trans {M : List Nat} {a b c : World} (h : KTouch M a b) (g : KTouch M b c) : KTouch M a c :=
  ⟨g.os.trans h.os, g.tape.trans h.tape, g.output.trans h.output, Nat.le_trans h.size g.size, fun k hk hm => (g.block k (Nat.lt_of_lt_of_le hk h.size) hm).trans (h.block k hk hm)⟩
theorem KTouch.of {M : List Nat} {w w' : World} (h : Below w.heap.size w w') : KTouch M w w' := ⟨h.os, h.tape, h.output, h.size, fun k hk _ => h.block k hk⟩
theorem KTouch.set {M : List Nat} (w : World) {b : Nat} (hb : b ∈ M) (i : Nat) (v : Value) : KTouch M w (w.setCell ⟨b, i, none⟩ v) :=
  ⟨rfl, rfl, rfl, by simp, fun k _ hm => Below.heap_setCell _ _ _ _ (fun e => hm (by rw [show k = b from e]; exact hb))⟩
theorem KTouch.below {M : List Nat} {w w' : World} (h : KTouch M w w') {B : Nat} (hB : ∀ b ∈ M, B ≤ b) (hw : B ≤ w.heap.size) : Below B w w' :=
  ⟨h.os, h.tape, h.output, h.size, fun k hk => h.block k (by omega) (fun hm => by have := hB k hm; omega)⟩
theorem KTouch.drew {M : List Nat} {w w' : World} (h : KTouch M w w') : KTouch M w w'.drew := h.trans (KTouch.of (Below.refl _ _).drew)
theorem KTouch.more {M M' : List Nat} {w w' w'' : World} (h : KTouch M w w') (g : KTouch M' w' w'') (hn : ∀ m ∈ M', w.heap.size ≤ m) : KTouch M w w'' :=
  ⟨g.os.trans h.os, g.tape.trans h.tape, g.output.trans h.output, Nat.le_trans h.size g.size, fun k hk hm => (g.block k (Nat.lt_of_lt_of_le hk h.size) (fun hm' => by have := hn k hm'; omega)).trans (h.block k hk hm)⟩
theorem KTouch.mono {M M' : List Nat} {w w' : World} (h : KTouch M w w') (hm : ∀ m ∈ M, m ∈ M') : KTouch M' w w' := ⟨h.os, h.tape, h.output, h.size, fun k hk hn => h.block k hk (fun h2 => hn (hm k h2))⟩
/-- The cells of a state. -/
structure StC (w : World) (b o : Nat) (s : St) : Prop where
  p : w.cell? ⟨b, o, none⟩ = some (.int .i64 s.p)
  c0 : w.cell? ⟨b, o + 1, none⟩ = some (.int .i64 (s.c 0))
  c1 : w.cell? ⟨b, o + 2, none⟩ = some (.int .i64 (s.c 1))
  c2 : w.cell? ⟨b, o + 3, none⟩ = some (.int .i64 (s.c 2))
  c3 : w.cell? ⟨b, o + 4, none⟩ = some (.int .i64 (s.c 3))
  c4 : w.cell? ⟨b, o + 5, none⟩ = some (.int .i64 (s.c 4))
  c5 : w.cell? ⟨b, o + 6, none⟩ = some (.int .i64 (s.c 5))
  f : w.cell? ⟨b, o + 7, none⟩ = some (.bool s.f)
theorem StC.block {w w' : World} {b o : Nat} {s : St} (h : StC w b o s) (hb : w'.heap[b]? = w.heap[b]?) : StC w' b o s := by
  have hc := fun i => World.cell?_of_block (w := w) (w' := w') (a := ⟨b, i, none⟩) hb
  exact ⟨(hc _).trans h.p, (hc _).trans h.c0, (hc _).trans h.c1, (hc _).trans h.c2, (hc _).trans h.c3, (hc _).trans h.c4, (hc _).trans h.c5, (hc _).trans h.f⟩
/-- A cell is another number. -/
def pokeS (s : St) (c : Nat) (n : Int) : St := ⟨s.p, fun i => if i = c then n else s.c i, s.f⟩
/-- What is wrong with a poke. -/
def pokeB (k : KD) (r c n : Int) : Bool := decide (r < 0) || decide ((k.rooms.length : Int) ≤ r) || decide (c < 0) || decide (5 < c) || decide (n < 0) || decide (999 < n)
/-- .. as a number. -/
def pokeN (k : KD) (r c n : Int) : Int := if pokeB k r c n = true then 1 else 0
def pokeK (k : KD) (r c n : Int) : KD := if pokeB k r c n = true then k else ⟨k.rooms.set r.toNat (pokeS (k.rooms.getD r.toNat stNew) c.toNat n), k.lines, k.time⟩
theorem pokeB_false {k : KD} {r c n : Int} (h : pokeB k r c n = false) : 0 ≤ r ∧ r < k.rooms.length ∧ 0 ≤ c ∧ c ≤ 5 ∧ 0 ≤ n ∧ n ≤ 999 := by
  unfold pokeB at h
  simp only [Bool.or_eq_false_iff, decide_eq_false_iff_not] at h
  omega
theorem pokeS_ok {s : St} {m : Nat} (h : stOk s m = true) {c : Nat} {n : Int} (hn : 0 ≤ n ∧ n ≤ 999) : stOk (pokeS s c n) m = true := by
  obtain ⟨h1, h2, h3⟩ := stOk_iff.1 h
  refine stOk_iff.2 ⟨h1, h2, fun i hi => ?_⟩
  show 0 ≤ (if i = c then n else s.c i) ∧ (if i = c then n else s.c i) ≤ 999
  split
  · exact hn
  · exact h3 i hi
theorem poke_ok {p : PD} {k : KD} (hk : KOk p k) (r c n : Int) : KOk p (pokeK k r c n) := by
  unfold pokeK
  cases hb : pokeB k r c n with
  | true => rw [if_pos rfl]; exact hk
  | false =>
    rw [if_neg (by decide)]
    obtain ⟨h0, h1, h2, h3, h4, h5⟩ := pokeB_false hb
    refine ⟨by simp only [List.length_set]; exact hk.rl, hk.ll, fun i c' s hc hs => ?_, hk.lines, hk.lost, hk.time⟩
    simp only at hs
    by_cases hij : r.toNat = i
    · subst hij
      have hlt : r.toNat < k.rooms.length := by omega
      rw [List.getElem?_set_self hlt] at hs
      obtain rfl := Option.some.inj hs
      have hs0 : k.rooms[r.toNat]? = some k.rooms[r.toNat] := List.getElem?_eq_getElem hlt
      rw [show k.rooms.getD r.toNat stNew = k.rooms[r.toNat] by simp [List.getD, hs0]]
      exact pokeS_ok (hk.rooms _ _ _ hc hs0) ⟨h4, h5⟩
    · rw [List.getElem?_set_ne hij] at hs
      exact hk.rooms i c' s hc hs
end Go.Proofs.YtfconbblnmbnpahDoor
namespace Go.Proofs.YtfconbblnmbnpahDoor
open Go.RowKit

/-- A state as a value. -/
def stA (s : St) : Value := .agg #[.int .i64 s.p, .int .i64 (s.c 0), .int .i64 (s.c 1), .int .i64 (s.c 2), .int .i64 (s.c 3), .int .i64 (s.c 4), .int .i64 (s.c 5), .bool s.f]
/-- An event as a value. -/
def evA (e : Int × Int × Int × Int) : Value := .agg #[.int .i64 e.1, .int .i64 e.2.1, .int .i64 e.2.2.1, .int .i64 e.2.2.2]
def errB (b : Bool) : Int := if b = true then 1 else 0
/-- A room of a kernel, and whether there is one. -/
def noRoom (k : KD) (r : Int) : Bool := decide (r < 0) || decide ((k.rooms.length : Int) ≤ r)
def roomK (k : KD) (r : Int) : St := if noRoom k r = true then stNew else k.rooms.getD r.toNat stNew
/-- A line of a kernel, and whether there is one. -/
def noLine (k : KD) (i : Int) : Bool := decide (i < 0) || decide ((k.lines.length : Int) ≤ i)
def lineK (k : KD) (i : Int) : LnD := if noLine k i = true then LnD.none else k.lines.getD i.toNat LnD.none
end Go.Proofs.YtfconbblnmbnpahDoor
namespace Go.Proofs.YtfconbblnmbnpahDoor
open Go.ChangeShapes Go.WideShapes Go.ChangeAt Go.WideElems Go.RowKit Go.Deep

theorem pk_spot {W : World} {a : Addr} {v : Value} (h : W.cell? a = some v) : a = ⟨a.block, a.off, none⟩ ∧ a.block < W.heap.size := by
  obtain ⟨b, o, s⟩ := a
  unfold World.cell? at h
  simp only at h
  cases hb : W.heap[b]? with
  | none => rw [hb] at h; cases h
  | some x =>
    rw [hb] at h
    refine ⟨?_, (Array.getElem?_eq_some_iff.1 hb).1⟩
    cases x <;> simp at h
    cases s with
    | none => rfl
    | some s => simp at h
theorem pk_lt {α : Type} [Inhabited α] {p : Nat → α → Prop} {n : Nat} (h : ∀ i, i < n → ∃ x, p i x) : ∃ f : Nat → α, ∀ i, i < n → p i (f i) := by
  refine ⟨fun i => if hi : i < n then (h i hi).choose else default, fun i hi => ?_⟩
  simp only [hi, dif_pos]
  exact (h i hi).choose_spec
/-- A slice read as data, at the level of its cell. -/
theorem pk_slice {α : Type} [Inhabited α] {H : Type} {enc : TypeId × Value → H} {P : Program} {W : World} {base : Nat} {sp : Nat → Bool} {held : Bool} {fuel : Nat} {cs : List Value} {x : DataW H × List MemPlace} {t e : TypeId} {k : Nat}
    (ht : P.underlying t = some (.slice e)) (hk : P.cellsOf e = k) (hk0 : 0 < k) (R : List Value → α → Prop)
    (hel : ∀ (n : Nat) (cs : List Value) (x : DataW H × List MemPlace), DataW.trod enc P W base sp held n e cs = some x → ∃ o, R cs o)
    (h : DataW.trod enc P W base sp held fuel t cs = some x) :
    ∃ a len cap, cs = [.slice a len cap] ∧ (len = 0 ∨ ∃ b off, a = some ⟨b, off, none⟩ ∧ len ≤ cap ∧ b < W.heap.size ∧ ∃ l : List α, l.length = len ∧ ∀ i o, l[i]? = some o → ∃ us, us.length = k ∧ R us o ∧ ∀ j, j < k → W.cell? ⟨b, off + i * k + j, none⟩ = us[j]?) := by
  rcases open_slice ht h with ⟨rfl, _⟩ | ⟨a, len, cap, m, n, D, Pl, rfl, _, hl, _, hm, _, he⟩
  · exact ⟨none, 0, 0, rfl, Or.inl rfl⟩
  · refine ⟨some a, len, cap, rfl, ?_⟩
    have hlm : len ≤ m := by rw [hm]; split <;> omega
    by_cases h0 : len = 0
    · exact Or.inl h0
    · rw [hk] at he
      obtain ⟨F, hF⟩ := pk_lt (α := α × List Value) (p := fun i o => o.2.length = k ∧ R o.2 o.1 ∧ ∀ j, j < k → W.cell? ((a.add (i * k)).add j) = o.2[j]?) (n := len) (fun i hi => by
        obtain ⟨us, h1, h2⟩ := he i (by omega)
        obtain ⟨o, ho⟩ := hel _ _ _ h2
        obtain ⟨_, h3, h4⟩ := World.cells?_some h1
        exact ⟨(o, us), h3, ho, h4⟩)
      obtain ⟨l0, _, c0⟩ := hF 0 (by omega)
      have hz := c0 0 hk0
      rw [show (a.add (0 * k)).add 0 = a from by simp [Addr.add], List.getElem?_eq_getElem (by omega)] at hz
      obtain ⟨ha, hlt⟩ := pk_spot hz
      refine Or.inr ⟨a.block, a.off, by rw [← ha], hl, hlt, (List.range len).map (fun i => (F i).1), by simp, fun i o ho => ?_⟩
      have hi : i < len := by
        have := (List.getElem?_eq_some_iff.1 ho).1
        simpa using this
      have hoi : (F i).1 = o := by simpa [hi] using ho
      obtain ⟨h1, h2, h3⟩ := hF i hi
      refine ⟨(F i).2, h1, hoi ▸ h2, fun j hj => ?_⟩
      have := h3 j hj
      rw [ha] at this
      simp only [Addr.add_lit] at this
      exact this
theorem pcInt : Tryd.prog.cellsOf 3 = 1 := by kernel_rfl
theorem pcOp : Tryd.prog.cellsOf 76 = 3 := by kernel_rfl
theorem pcSpan : Tryd.prog.cellsOf 23 = 3 := by kernel_rfl
theorem pcWire : Tryd.prog.cellsOf 82 = 4 := by kernel_rfl
theorem pcOps : Tryd.prog.cellsOf 73 = 1 := by kernel_rfl
section
variable {H : Type} {enc : TypeId × Value → H} {W : World} {base : Nat} {sp : Nat → Bool} {held : Bool}
set_option maxRecDepth 100000 in
theorem pk_op (n : Nat) (cs : List Value) (x : DataW H × List MemPlace) (h : DataW.trod enc Tryd.prog W base sp held n 76 cs = some x) : ∃ o : O3, cs = [.int .i64 o.1, .int .i64 o.2.1, .int .i64 o.2.2] := by
  obtain ⟨y0, y1, y2, n, _, hl, h0, h1, h2⟩ := trod_struct3 Tryd.underlying76 h
  rw [pcOp] at hl
  match cs, hl with
  | [c0, c1, c2], _ =>
    simp only [pcInt] at h0 h1 h2
    simp at h0 h1 h2
    obtain ⟨n, e0, _, _⟩ := DataW.trod_int Tryd.underlying3 h0
    obtain ⟨a, e1, _, _⟩ := DataW.trod_int Tryd.underlying3 h1
    obtain ⟨b, e2, _, _⟩ := DataW.trod_int Tryd.underlying3 h2
    simp only [List.cons.injEq, and_true] at e0 e1 e2
    subst e0; subst e1; subst e2
    exact ⟨(n, a, b), rfl⟩
set_option maxRecDepth 100000 in
theorem pk_span (n : Nat) (cs : List Value) (x : DataW H × List MemPlace) (h : DataW.trod enc Tryd.prog W base sp held n 23 cs = some x) : ∃ o : S3, cs = [.int .i64 o.1, .int .i64 o.2.1, .int .i64 o.2.2] := by
  obtain ⟨y0, y1, y2, n, _, hl, h0, h1, h2⟩ := trod_struct3 Tryd.underlying23 h
  rw [pcSpan] at hl
  match cs, hl with
  | [c0, c1, c2], _ =>
    simp only [pcInt] at h0 h1 h2
    simp at h0 h1 h2
    obtain ⟨n, e0, _, _⟩ := DataW.trod_int Tryd.underlying3 h0
    obtain ⟨a, e1, _, _⟩ := DataW.trod_int Tryd.underlying3 h1
    obtain ⟨b, e2, _, _⟩ := DataW.trod_int Tryd.underlying3 h2
    simp only [List.cons.injEq, and_true] at e0 e1 e2
    subst e0; subst e1; subst e2
    exact ⟨(n, a, b), rfl⟩
set_option maxRecDepth 100000 in
theorem pk_wire (n : Nat) (cs : List Value) (x : DataW H × List MemPlace) (h : DataW.trod enc Tryd.prog W base sp held n 82 cs = some x) : ∃ o : W4, cs = [.int .i64 o.1, .int .i64 o.2.1, .int .i64 o.2.2.1, .int .i64 o.2.2.2] := by
  obtain ⟨y0, y1, y2, y3, n, _, hl, h0, h1, h2, h3⟩ := Joins.trod_struct4 Tryd.underlying82 h
  rw [pcWire] at hl
  match cs, hl with
  | [c0, c1, c2, c3], _ =>
    simp only [pcInt] at h0 h1 h2 h3
    simp at h0 h1 h2 h3
    obtain ⟨n, e0, _, _⟩ := DataW.trod_int Tryd.underlying3 h0
    obtain ⟨a, e1, _, _⟩ := DataW.trod_int Tryd.underlying3 h1
    obtain ⟨b, e2, _, _⟩ := DataW.trod_int Tryd.underlying3 h2
    obtain ⟨c, e3, _, _⟩ := DataW.trod_int Tryd.underlying3 h3
    simp only [List.cons.injEq, and_true] at e0 e1 e2 e3
    subst e0; subst e1; subst e2; subst e3
    exact ⟨(n, a, b, c), rfl⟩
theorem pk_ops (n : Nat) (cs : List Value) (x : DataW H × List MemPlace) (h : DataW.trod enc Tryd.prog W base sp held n 73 cs = some x) : ∃ l : List O3, ∃ u, cs = [u] ∧ Ops W u l := by
  obtain ⟨a, len, cap, rfl, hr⟩ := pk_slice (α := O3) Tryd.underlying73 pcOp (by decide) (fun cs o => cs = [.int .i64 o.1, .int .i64 o.2.1, .int .i64 o.2.2]) pk_op h
  rcases hr with rfl | ⟨b, off, rfl, _, hlt, l, rfl, hl⟩
  · exact ⟨[], _, rfl, Or.inl ⟨rfl, _, _, rfl⟩⟩
  · refine ⟨l, _, rfl, Or.inr ⟨b, off, cap, rfl, hlt, fun i o ho => ?_⟩⟩
    obtain ⟨us, _, rfl, hc⟩ := hl i o ho
    exact ⟨hc 0 (by omega), hc 1 (by omega), hc 2 (by omega)⟩
theorem pk_sps (n : Nat) (cs : List Value) (x : DataW H × List MemPlace) (h : DataW.trod enc Tryd.prog W base sp held n 24 cs = some x) : ∃ l : List S3, ∃ u, cs = [u] ∧ Sps W u l := by
  obtain ⟨a, len, cap, rfl, hr⟩ := pk_slice (α := S3) Tryd.underlying24 pcSpan (by decide) (fun cs o => cs = [.int .i64 o.1, .int .i64 o.2.1, .int .i64 o.2.2]) pk_span h
  rcases hr with rfl | ⟨b, off, rfl, hcap, hlt, l, rfl, hl⟩
  · exact ⟨[], _, rfl, Or.inl ⟨rfl, _, _, rfl⟩⟩
  · refine ⟨l, _, rfl, Or.inr ⟨b, off, cap, rfl, hcap, hlt, fun i o ho => ?_⟩⟩
    obtain ⟨us, _, rfl, hc⟩ := hl i o ho
    exact ⟨hc 0 (by omega), hc 1 (by omega), hc 2 (by omega)⟩
theorem pk_wrs (n : Nat) (cs : List Value) (x : DataW H × List MemPlace) (h : DataW.trod enc Tryd.prog W base sp held n 32 cs = some x) : ∃ l : List W4, ∃ u, cs = [u] ∧ Wrs W u l := by
  obtain ⟨a, len, cap, rfl, hr⟩ := pk_slice (α := W4) Tryd.underlying32 pcWire (by decide) (fun cs o => cs = [.int .i64 o.1, .int .i64 o.2.1, .int .i64 o.2.2.1, .int .i64 o.2.2.2]) pk_wire h
  rcases hr with rfl | ⟨b, off, rfl, hcap, hlt, l, rfl, hl⟩
  · exact ⟨[], _, rfl, Or.inl ⟨rfl, _, _, rfl⟩⟩
  · refine ⟨l, _, rfl, Or.inr ⟨b, off, cap, rfl, hcap, hlt, fun i o ho => ?_⟩⟩
    obtain ⟨us, _, rfl, hc⟩ := hl i o ho
    exact ⟨hc 0 (by omega), hc 1 (by omega), hc 2 (by omega), hc 3 (by omega)⟩
theorem pk_cds (n : Nat) (cs : List Value) (x : DataW H × List MemPlace) (h : DataW.trod enc Tryd.prog W base sp held n 31 cs = some x) : ∃ l : List (List O3), ∃ u, cs = [u] ∧ Cds W u l := by
  obtain ⟨a, len, cap, rfl, hr⟩ := pk_slice (α := List O3) Tryd.underlying31 pcOps (by decide) (fun cs l => ∃ u, cs = [u] ∧ Ops W u l) pk_ops h
  rcases hr with rfl | ⟨b, off, rfl, hcap, hlt, l, rfl, hl⟩
  · exact ⟨[], _, rfl, Or.inl ⟨rfl, _, _, rfl⟩⟩
  · refine ⟨l, _, rfl, Or.inr ⟨b, off, cap, rfl, hcap, hlt, fun i c hc => ?_⟩⟩
    obtain ⟨us, _, ⟨u, rfl, hu⟩, hc⟩ := hl i c hc
    have := hc 0 (by omega)
    exact ⟨u, by simpa using this, hu⟩
set_option maxRecDepth 100000 in
/-- A plan that came in. -/
theorem open_plan {b0 : Nat} {r : Reach} {v : Value} {d : DataW H} {p : List MemPlace} (hv : Value.okWide Tryd.prog W r b0 34 v)
    (h : DataW.Trod enc Tryd.prog W base sp held 34 v d p) : ∃ (vc vs vw : Value) (p : PD), v = plV vc p.ticks vs vw ∧ Pln W vc vs vw p := by
  obtain ⟨v0, v1, v2, v3, y0, y1, y2, y3, m, rfl, _, _, h0, h1, h2, h3⟩ := Joins.open_agg4 Tryd.underlying34 (by kernel_rfl) (by kernel_rfl) hv h
  obtain ⟨cs, u0, e0, g0⟩ := pk_cds _ _ _ h0
  obtain ⟨n, e1, _, _⟩ := DataW.trod_int Tryd.underlying3 h1
  obtain ⟨ss, u2, e2, g2⟩ := pk_sps _ _ _ h2
  obtain ⟨ws, u3, e3, g3⟩ := pk_wrs _ _ _ h3
  simp only [List.cons.injEq, and_true] at e0 e1 e2 e3
  subst e0; subst e1; subst e2; subst e3
  exact ⟨_, _, _, ⟨cs, n, ss, ws⟩, rfl, g0, g2, g3⟩
end
end Go.Proofs.YtfconbblnmbnpahDoor
namespace Go.Proofs.YtfconbblnmbnpahDoor
open Go.RowKit

/-- The ports of a room, one kind of them, as they are gone over. -/
theorem ports_bad {at' : W4 → Int} {ws : List W4} {i : Nat} {zs : List Int} {k : Nat} {z : Int} (hz : zs[k]? = some z) (h : portB at' ws i z = true) : zs.any (portB at' ws i) = true := any_hit hz h
theorem wires_mem {what : Int} {c : List O3} {z : Int} (h : z ∈ wiresB what c) : 0 ≤ z ∧ z < 12 := by
  unfold wiresB pickN at h
  simp only [List.mem_map, List.mem_filter, List.mem_range'_1] at h
  obtain ⟨a, ⟨⟨_, h2⟩, _⟩, rfl⟩ := h
  simp
  omega
theorem port_out {ws : List W4} {i : Nat} {c : List O3} (h : (wiresB 8 c).any (portB (·.1) ws i) = true) : portsB ws i c = true := by unfold portsB; rw [h]; rfl
theorem port_in {ws : List W4} {i : Nat} {c : List O3} (h : (wiresB 9 c).any (portB (·.2.1) ws i) = true) : portsB ws i c = true := by unfold portsB; rw [h, Bool.or_true]
theorem ports_next {ws : List W4} {l : List (List O3)} {k : Nat} {c : List O3} (h : ∀ (j : Nat) y, j < k → l[j]? = some y → portsB ws j y = false) (hx : l[k]? = some c) (hf : portsB ws k c = false) : ∀ (j : Nat) y, j < k + 1 → l[j]? = some y → portsB ws j y = false := fun j y hj hy => by
  by_cases hjk : j < k
  · exact h j y hjk hy
  · obtain rfl : j = k := by omega
    rw [hx] at hy
    obtain rfl := Option.some.inj hy
    exact hf
theorem stp_of_ints {w : World} {v : Value} {zs : List Int} (h : Ints w v zs) : Stp w v zs := by
  rcases h with ⟨rfl, rfl⟩ | ⟨a, cap, rfl, ha, hc⟩
  · exact Or.inl ⟨rfl, _, _, rfl⟩
  · cases zs with
    | nil => exact Or.inl ⟨rfl, _, _, rfl⟩
    | cons z zs =>
      have h0 := hc 0 z rfl
      have ea : a = ⟨a.block, a.off, none⟩ := by
        obtain ⟨b, o, s⟩ := a
        cases s with
        | none => rfl
        | some s =>
          exfalso
          unfold Addr.add at h0
          simp [World.cell?] at h0
          split at h0 <;> simp at h0
      refine Or.inr ⟨a.block, a.off, cap, by rw [← ea], ha, fun i x hx => ?_⟩
      have := hc i x hx
      rw [ea, Addr.add_lit] at this
      exact this
end Go.Proofs.YtfconbblnmbnpahDoor
namespace Go.Proofs.YtfconbblnmbnpahDoor
open Go.RowKit

/-- What lies in threes can be read cell by cell. -/
theorem trio_at {w : World} {b : Nat} : ∀ (l : List (Int × Int × Int)) (off : Nat), (∀ (i : Nat) o, l[i]? = some o → w.cell? ⟨b, off + i * 3, none⟩ = some (.int .i64 o.1) ∧ w.cell? ⟨b, off + i * 3 + 1, none⟩ = some (.int .i64 o.2.1) ∧ w.cell? ⟨b, off + i * 3 + 2, none⟩ = some (.int .i64 o.2.2)) → ∀ j u, (spCells l)[j]? = some u → w.cell? ((⟨b, off, none⟩ : Addr).add j) = some u
  | [], off, _, j, u, hj => by simp [spCells] at hj
  | x :: l, off, h, j, u, hj => by
    have e : spCells (x :: l) = [.int .i64 x.1, .int .i64 x.2.1, .int .i64 x.2.2] ++ spCells l := by simp [spCells]
    rw [e] at hj
    obtain ⟨h0, h1, h2⟩ := h 0 x (by simp)
    rw [Addr.add_lit]
    match j, hj with
    | 0, hj => simp at hj; subst hj; simpa using h0
    | 1, hj => simp at hj; subst hj; simpa using h1
    | 2, hj => simp at hj; subst hj; simpa using h2
    | j + 3, hj =>
      rw [List.getElem?_append_right (by simp)] at hj
      have ih := trio_at l (off + 3) (fun i o ho => by
        have := h (i + 1) o (by simpa using ho)
        rw [show off + (i + 1) * 3 = off + 3 + i * 3 by omega] at this
        exact this) j u (by simpa using hj)
      rw [Addr.add_lit] at ih
      rw [show off + (j + 3) = off + 3 + j by omega]
      exact ih
theorem spCells_len : ∀ l : List (Int × Int × Int), (spCells l).length = l.length * 3
  | [] => rfl
  | x :: l => by
    have e : spCells (x :: l) = [.int .i64 x.1, .int .i64 x.2.1, .int .i64 x.2.2] ++ spCells l := by simp [spCells]
    rw [e, List.length_append, spCells_len l, List.length_cons]
    simp
    omega
theorem spCells_one (l : List (Int × Int × Int)) : ∀ u ∈ spCells l, u.oneCell' = true := by
  intro u hu
  simp only [spCells, List.mem_flatMap] at hu
  obtain ⟨o, _, hu⟩ := hu
  simp at hu
  rcases hu with rfl | rfl | rfl <;> rfl
theorem ginfoOp : (Tryd.prog.info? 76).map (fun i => (i.zero, i.size, i.bytes)) = some (some (.agg #[.int .i64 0, .int .i64 0, .int .i64 0]), 3, 24) := by kernel_rfl
set_option maxRecDepth 100000 in
set_option maxHeartbeats 4000000 in
theorem clone_op_nil (cap : Nat) (w : World) : Calls Tryd.prog 33 #[.slice none 0 cap] w fun e w' => e = .returned (.slice none 0 0) ∧ w' = w := by
  have q : ∀ (w : World) (a : Option Addr) (n c n' c' : Nat), (binOp .eql 73 (.slice a n c) (.slice none n' c')).run Tryd.prog w = .ok (.bool a.isNone) w := fun w a n c n' c' => Lib.run_eql_slice_nil w _ _ a n c n' c' Tryd.underlying73
  go_enter Tryd.func33, Tryd.ntmps33
  go_wp2
  go_ret
  exact ⟨rfl, rfl⟩
set_option maxRecDepth 100000 in
set_option maxHeartbeats 4000000 in
theorem clone_op_some (ad : Addr) (cap : Nat) (l : List (Int × Int × Int)) (w : World) (hx : l.length ≤ 1000) (hc : ∀ j u, (spCells l)[j]? = some u → w.cell? (ad.add j) = some u) :
    Calls Tryd.prog 33 #[.slice (some ad) l.length cap] w fun e w' => ∃ v', e = .returned v' ∧ w'.ownsRow w.heap.size 76 3 v' l.length (spCells l) ∧ Below w.heap.size w w' := by
  obtain ⟨ii, hi, hz0, hz1, hz2⟩ := info_parts ginfoOp
  have q : ∀ (w : World) (a : Option Addr) (n c n' c' : Nat), (binOp .eql 73 (.slice a n c) (.slice none n' c')).run Tryd.prog w = .ok (.bool a.isNone) w := fun w a n c n' c' => Lib.run_eql_slice_nil w _ _ a n c n' c' Tryd.underlying73
  have HC : Hid (∀ j u, (spCells l)[j]? = some u → w.cell? (ad.add j) = some u) := hc
  clear hc
  go_enter Tryd.func33, Tryd.ntmps33
  go_wp2_with (at_builtin; refine wpList_append_at _ rfl _ _ 73 rfl w.heap.size 76 ii _ 3 24 Tryd.underlying73 hi hz0 hz1 hz2 rfl (by decide) _ _ _ rfl (World.ownsRow_made w #[] 0 (Nat.le_refl _) (Nat.zero_le _) rfl) ad l.length cap (spCells l) rfl ?c0A ?c1A ?c2A ?c3A ?c4A ?c5A ?_)
  case c0A => exact spCells_len l
  case c1A =>
    intro j u hj
    have h := HC.out j u hj
    exact (((Below.refl _ w).alloc (Nat.le_refl _) _).cell (p := ad.add j) (World.block_lt_of_cell? w _ h)).trans h
  case c2A => exact spCells_one l
  case c3A => unfold maxLen; omega
  case c4A => omega
  case c5A => simp
  intro v1 w2 own1 hg1 hat1
  clear q
  go_wp2
  go_ret
  refine ⟨v1, rfl, by simpa using own1, ((Below.refl _ w).alloc (Nat.le_refl _) _).grown hg1 (by simp) (by intro k hk; simp [Value.ownBlock] at hk; omega)⟩
theorem clone_ops (l : List O3) (v : Value) (w : World) (h : Ops w v l) (hx : l.length ≤ 1000) :
    Calls Tryd.prog 33 #[v] w fun e w' => ∃ v', e = .returned v' ∧ w'.ownsRow w.heap.size 76 3 v' l.length (spCells l) ∧ Below w.heap.size w w' := by
  rcases h with ⟨rfl, ao, cap, rfl⟩ | ⟨b, off, cap, rfl, hlt, hc⟩
  · cases ao with
    | none =>
      refine (clone_op_nil cap w).mono ?_
      rintro e w' ⟨rfl, rfl⟩
      exact ⟨_, rfl, World.ownsRow_nil _ _ _ _, Below.refl _ _⟩
    | some ad => exact clone_op_some ad cap [] w (Nat.zero_le _) (fun j u hj => by simp [spCells] at hj)
  · exact clone_op_some ⟨b, off, none⟩ cap l w hx (trio_at l off hc)
/-- Ops in a row of their own can be read. -/
theorem gops_own {w : World} {base : Nat} {v : Value} {l : List O3} (h : w.ownsRow base 76 3 v l.length (spCells l)) : Ops w v l := by
  have hl := h.lt
  have hcs := @World.ownsRow.cells _ _ _ _ _ _ _ h
  rcases h.2 with ⟨rfl, h0⟩ | ⟨g, cap, cur, rfl, _, _, hcap, _⟩
  · exact Or.inl ⟨List.eq_nil_of_length_eq_zero h0, _, _, rfl⟩
  · have hat : ∀ j u, (spCells l)[j]? = some u → w.cell? ⟨g, j, none⟩ = some u := fun j u hu => by
      have := hcs rfl j u hu
      rwa [Addr.add_lit, Nat.zero_add] at this
    refine Or.inr ⟨g, 0, cap, rfl, (hl g rfl).2, fun i o ho => ?_⟩
    obtain ⟨h1, h2, h3⟩ := spCells_at l i o ho
    exact ⟨by simpa using hat _ _ h1, by simpa using hat _ _ h2, by simpa using hat _ _ h3⟩
end Go.Proofs.YtfconbblnmbnpahDoor
namespace Go.Proofs.YtfconbblnmbnpahDoor
open Go.RowKit

set_option maxRecDepth 100000 in
set_option maxHeartbeats 4000000 in
theorem clone_sp_nil (cap : Nat) (w : World) : Calls Tryd.prog 32 #[.slice none 0 cap] w fun e w' => e = .returned (.slice none 0 0) ∧ w' = w := by
  have q : ∀ (w : World) (a : Option Addr) (n c n' c' : Nat), (binOp .eql 24 (.slice a n c) (.slice none n' c')).run Tryd.prog w = .ok (.bool a.isNone) w := fun w a n c n' c' => Lib.run_eql_slice_nil w _ _ a n c n' c' Tryd.underlying24
  go_enter Tryd.func32, Tryd.ntmps32
  go_wp2
  go_ret
  exact ⟨rfl, rfl⟩
set_option maxRecDepth 100000 in
set_option maxHeartbeats 4000000 in
theorem clone_sp_some (ad : Addr) (cap : Nat) (l : List (Int × Int × Int)) (w : World) (hx : l.length ≤ 1000) (hc : ∀ j u, (spCells l)[j]? = some u → w.cell? (ad.add j) = some u) :
    Calls Tryd.prog 32 #[.slice (some ad) l.length cap] w fun e w' => ∃ v', e = .returned v' ∧ w'.ownsRow w.heap.size 23 3 v' l.length (spCells l) ∧ Below w.heap.size w w' := by
  obtain ⟨ii, hi, hz0, hz1, hz2⟩ := info_parts infoSp
  have q : ∀ (w : World) (a : Option Addr) (n c n' c' : Nat), (binOp .eql 24 (.slice a n c) (.slice none n' c')).run Tryd.prog w = .ok (.bool a.isNone) w := fun w a n c n' c' => Lib.run_eql_slice_nil w _ _ a n c n' c' Tryd.underlying24
  have HC : Hid (∀ j u, (spCells l)[j]? = some u → w.cell? (ad.add j) = some u) := hc
  clear hc
  go_enter Tryd.func32, Tryd.ntmps32
  go_wp2_with (at_builtin; refine wpList_append_at _ rfl _ _ 24 rfl w.heap.size 23 ii _ 3 24 Tryd.underlying24 hi hz0 hz1 hz2 rfl (by decide) _ _ _ rfl (World.ownsRow_made w #[] 0 (Nat.le_refl _) (Nat.zero_le _) rfl) ad l.length cap (spCells l) rfl ?c0A ?c1A ?c2A ?c3A ?c4A ?c5A ?_)
  case c0A => exact spCells_len l
  case c1A =>
    intro j u hj
    have h := HC.out j u hj
    exact (((Below.refl _ w).alloc (Nat.le_refl _) _).cell (p := ad.add j) (World.block_lt_of_cell? w _ h)).trans h
  case c2A => exact spCells_one l
  case c3A => unfold maxLen; omega
  case c4A => omega
  case c5A => simp
  intro v1 w2 own1 hg1 hat1
  clear q
  go_wp2
  go_ret
  refine ⟨v1, rfl, by simpa using own1, ((Below.refl _ w).alloc (Nat.le_refl _) _).grown hg1 (by simp) (by intro k hk; simp [Value.ownBlock] at hk; omega)⟩
theorem clone_sps (l : List S3) (v : Value) (w : World) (h : Sps w v l) (hx : l.length ≤ 1000) :
    Calls Tryd.prog 32 #[v] w fun e w' => ∃ v', e = .returned v' ∧ w'.ownsRow w.heap.size 23 3 v' l.length (spCells l) ∧ Below w.heap.size w w' := by
  rcases h with ⟨rfl, ao, cap, rfl⟩ | ⟨b, off, cap, rfl, hcap, hlt, hc⟩
  · cases ao with
    | none =>
      refine (clone_sp_nil cap w).mono ?_
      rintro e w' ⟨rfl, rfl⟩
      exact ⟨_, rfl, World.ownsRow_nil _ _ _ _, Below.refl _ _⟩
    | some ad => exact clone_sp_some ad cap [] w (Nat.zero_le _) (fun j u hj => by simp [spCells] at hj)
  · exact clone_sp_some ⟨b, off, none⟩ cap l w hx (trio_at l off hc)
end Go.Proofs.YtfconbblnmbnpahDoor
namespace Go.Proofs.YtfconbblnmbnpahDoor

/-- An event: tick, room, at, what. -/
def evOut (e : W4) : Bool := decide (e.1 < 0) || decide (1000000 < e.1) || (decide (e.2.1 < -1) || decide (4 < e.2.1)) || (decide (e.2.2.1 < 0) || decide (19 < e.2.2.1)) || (decide (e.2.2.2 < 0) || decide (5 < e.2.2.2))
/-- What is wrong with it. -/
def evBad (e : W4) : Int := if evOut e = true then 1 else if e.2.1 = -1 ∧ (e.2.2.1 ≠ 0 ∨ e.2.2.2 ≠ 0) then 3 else 0
def evScan : List W4 → Int
  | [] => 0
  | e :: l => if evBad e = 0 then evScan l else evBad e
/-- What is wrong with events. -/
def evchk (l : List W4) : Int := if 2000 < l.length then 4 else evScan l
theorem evScan_zero : ∀ {l : List W4}, evScan l = 0 ↔ ∀ e ∈ l, evBad e = 0
  | [] => by simp [evScan]
  | e :: l => by
    unfold evScan
    by_cases h : evBad e = 0
    · rw [if_pos h, evScan_zero]
      simp [h]
    · rw [if_neg h]
      simp [h]
theorem evchk_zero {l : List W4} : evchk l = 0 ↔ l.length ≤ 2000 ∧ ∀ e ∈ l, evBad e = 0 := by
  unfold evchk
  by_cases h : 2000 < l.length
  · rw [if_pos h]
    constructor
    · intro e; cases e
    · intro ⟨h1, _⟩; omega
  · rw [if_neg h, evScan_zero]
    constructor
    · intro e; exact ⟨by omega, e⟩
    · intro ⟨_, e⟩; exact e
theorem evBad_zero {e : W4} (h : evBad e = 0) : (0 ≤ e.1 ∧ e.1 ≤ 1000000) ∧ (-1 ≤ e.2.1 ∧ e.2.1 ≤ 4) ∧ (0 ≤ e.2.2.1 ∧ e.2.2.1 ≤ 19) ∧ (0 ≤ e.2.2.2 ∧ e.2.2.2 ≤ 5) ∧ (e.2.1 = -1 → e.2.2.1 = 0 ∧ e.2.2.2 = 0) := by
  unfold evBad at h
  split at h
  · cases h
  · rename_i h1
    split at h
    · cases h
    · rename_i h2
      unfold evOut at h1
      simp only [Bool.or_eq_true, decide_eq_true_eq, not_or] at h1
      refine ⟨by omega, by omega, by omega, by omega, fun e1 => ?_⟩
      by_cases h3 : e.2.2.1 ≠ 0 ∨ e.2.2.2 ≠ 0
      · exact absurd ⟨e1, h3⟩ h2
      · omega
theorem evBad_of {e : W4} (h1 : 0 ≤ e.1 ∧ e.1 ≤ 1000000) (h2 : -1 ≤ e.2.1 ∧ e.2.1 ≤ 4) (h3 : 0 ≤ e.2.2.1 ∧ e.2.2.1 ≤ 19) (h4 : 0 ≤ e.2.2.2 ∧ e.2.2.2 ≤ 5) (h5 : e.2.1 = -1 → e.2.2.1 = 0 ∧ e.2.2.2 = 0) : evBad e = 0 := by
  unfold evBad
  rw [if_neg, if_neg]
  · intro ⟨a, b⟩
    have := h5 a
    omega
  · unfold evOut
    simp only [Bool.or_eq_true, decide_eq_true_eq]
    omega
/-- Those of a room. -/
def ofR (l : List W4) (r : Int) : List W4 := l.filter fun e => decide (e.2.1 = r)
def ofE (l : List W4) (r : Int) : Int := if evchk l = 0 then (if r < -1 ∨ 4 < r then 1 else 0) else evchk l
def ofV (l : List W4) (r : Int) : List W4 := if ofE l r = 0 then ofR l r else []
/-- How many of each kind. -/
def cntW (l : List W4) (k : Int) : Nat := (l.filter fun e => decide (e.2.2.2 = k)).length
def countsL (l : List W4) : List Int := [(cntW l 0 : Int), (cntW l 1 : Int), (cntW l 2 : Int), (cntW l 3 : Int), (cntW l 4 : Int), (cntW l 5 : Int)]
def countsV (l : List W4) : List Int := if evchk l = 0 then countsL l else []
/-- Those of all rooms, and of none, are all. -/
theorem of_all : ∀ {l : List W4}, (∀ e ∈ l, evBad e = 0) → (ofR l (-1)).length + (ofR l 0).length + (ofR l 1).length + (ofR l 2).length + (ofR l 3).length + (ofR l 4).length = l.length
  | [], _ => rfl
  | e :: l, h => by
    have ih := of_all (l := l) (fun x hx => h x (List.mem_cons_of_mem _ hx))
    obtain ⟨_, hr, _⟩ := evBad_zero (h e (List.mem_cons_self ..))
    unfold ofR at ih ⊢
    have hc : e.2.1 = -1 ∨ e.2.1 = 0 ∨ e.2.1 = 1 ∨ e.2.1 = 2 ∨ e.2.1 = 3 ∨ e.2.1 = 4 := by omega
    rcases hc with h | h | h | h | h | h <;> (simp [h]; omega)
theorem counts_all : ∀ {l : List W4}, (∀ e ∈ l, evBad e = 0) → cntW l 0 + cntW l 1 + cntW l 2 + cntW l 3 + cntW l 4 + cntW l 5 = l.length
  | [], _ => rfl
  | e :: l, h => by
    have ih := counts_all (l := l) (fun x hx => h x (List.mem_cons_of_mem _ hx))
    obtain ⟨_, _, _, hr, _⟩ := evBad_zero (h e (List.mem_cons_self ..))
    unfold cntW at ih ⊢
    have hc : e.2.2.2 = 0 ∨ e.2.2.2 = 1 ∨ e.2.2.2 = 2 ∨ e.2.2.2 = 3 ∨ e.2.2.2 = 4 ∨ e.2.2.2 = 5 := by omega
    rcases hc with h | h | h | h | h | h <;> (simp [h]; omega)
/-- What is told of a tick. -/
def evK (p : PD) (k : KD) : W4 := (tickK p p.spans k).2
theorem what_range (o : O3) (s : St) (b : Bool) : 0 ≤ whatF o s b ∧ whatF o s b ≤ 5 := by
  unfold whatF
  repeat' split
  all_goals omega
theorem evK_ok {p : PD} {k : KD} (hp : plchk p = 0) (hk : KOk p k) (ht : k.time ≤ 1000000) : evBad (evK p k) = 0 := by
  have hw := who_room hp (k.time % p.ticks)
  have hcl := (plchk_zero hp).1
  have h0 := hk.time
  unfold evK tickK
  simp only
  split
  · rename_i hneg
    exact evBad_of ⟨h0, ht⟩ (by show -1 ≤ hold _ _ ∧ hold _ _ ≤ 4; omega) (by show (0 : Int) ≤ 0 ∧ (0 : Int) ≤ 19; decide) (by show (0 : Int) ≤ 0 ∧ (0 : Int) ≤ 5; decide) (fun _ => ⟨rfl, rfl⟩)
  · rename_i hpos
    have hr := hw.2 (by omega)
    obtain ⟨c, s, o, htn⟩ := turn_of hp hk hr
    obtain ⟨a1, a2, a3⟩ := htn.at
    have hst := stOk_iff.1 htn.st
    have hc20 := (chk_zero htn.ck).2.1
    refine evBad_of ⟨h0, ht⟩ (by show -1 ≤ hold _ _ ∧ hold _ _ ≤ 4; omega) ?_ ?_ (fun e => by have : hold p.spans (k.time % p.ticks) = -1 := e; omega)
    · show 0 ≤ (turnK p k _).2.1 ∧ (turnK p k _).2.1 ≤ 19
      unfold turnK
      simp only
      rw [a2]
      have := hst.1
      have := hst.2.1
      omega
    · show 0 ≤ (turnK p k _).2.2 ∧ (turnK p k _).2.2 ≤ 5
      unfold turnK cameK
      simp only
      split
      · omega
      · exact what_range _ _ _
theorem evK_room (p : PD) (k : KD) : (evK p k).2.1 = whoK p k := (tick_told p k).2
/-- Those of a run. -/
def runL (p : PD) (n : Nat) : List W4 := (List.range n).map fun t => evK p (kT p t)
theorem runL_len (p : PD) (n : Nat) : (runL p n).length = n := by simp [runL]
theorem runL_succ (p : PD) (n : Nat) : runL p (n + 1) = runL p n ++ [evK p (kT p n)] := by simp [runL, List.range_succ]
theorem runL_take (p : PD) {n m : Nat} (h : n ≤ m) : (runL p m).take n = runL p n := by
  unfold runL
  rw [← List.map_take, List.take_range, Nat.min_eq_left h]
theorem runL_ok {p : PD} (hp : plchk p = 0) {n : Nat} (hn : n ≤ 2000) : evchk (runL p n) = 0 := by
  rw [evchk_zero]
  refine ⟨by rw [runL_len]; exact hn, fun e he => ?_⟩
  unfold runL at he
  obtain ⟨t, ht, rfl⟩ := List.mem_map.1 he
  have := List.mem_range.1 ht
  exact evK_ok hp (kT_ok hp t) (by rw [kT_time]; omega)
/-- As many events as turns. -/
theorem runL_of {p : PD} (r : Int) : ∀ n, (ofR (runL p n) r).length = cnR (hasT p.ticks p.spans r) 0 n
  | 0 => rfl
  | n + 1 => by
    have ih := runL_of (p := p) r n
    rw [runL_succ]
    unfold ofR at ih ⊢
    rw [List.filter_append, List.length_append, ih]
    show _ = cnR (hasT p.ticks p.spans r) 0 n + (if hasT p.ticks p.spans r (0 + n) = true then 1 else 0)
    congr 1
    rw [Nat.zero_add]
    have e1 : decide ((evK p (kT p n)).2.1 = r) = hasT p.ticks p.spans r n := by
      rw [evK_room]
      unfold whoK hasT
      rw [kT_time]
    cases hh : hasT p.ticks p.spans r n with
    | true => rw [hh] at e1; simp only [decide_eq_true_eq] at e1; simp [e1]
    | false => rw [hh] at e1; simp only [decide_eq_false_iff_not] at e1; simp [e1]
def trE (p : PD) (n : Int) : Int := if plchk p = 0 then (if n < 0 ∨ 2000 < n then 1 else 0) else plchk p
def trV (p : PD) (n : Int) : List W4 := if trE p n = 0 then runL p n.toNat else []
theorem trE_zero {p : PD} {n : Int} (h : trE p n = 0) : plchk p = 0 ∧ 0 ≤ n ∧ n ≤ 2000 := by
  unfold trE at h
  split at h
  · rename_i h0
    split at h
    · cases h
    · exact ⟨h0, by omega, by omega⟩
  · rename_i h0
    exact absurd h h0
end Go.Proofs.YtfconbblnmbnpahDoor
namespace Go.Proofs.YtfconbblnmbnpahDoor
open Go.RowKit

def TrcOf (G : World → Prop) : Prop := ∀ (l : List W4) (v : Value) (r : Int) (W : World), G W → Wrs W v l → Calls Tryd.prog 8 #[v, .int .i64 r] W fun e w' => ∃ u, e = .returned (.tuple #[u, wErr (ofE l r)]) ∧ Wrs w' u (ofV l r) ∧ Below W.heap.size W w'
end Go.Proofs.YtfconbblnmbnpahDoor
namespace Go.Proofs.YtfconbblnmbnpahDoor
open Go.RowKit

def TrcRun (G : World → Prop) : Prop := ∀ (p : PD) (vc vs vw : Value) (n : Int) (W : World), G W → Pln W vc vs vw p → Calls Tryd.prog 9 #[plV vc p.ticks vs vw, .int .i64 n] W fun e w' => ∃ u, e = .returned (.tuple #[u, wErr (trE p n)]) ∧ Wrs w' u (trV p n) ∧ Below W.heap.size W w'
end Go.Proofs.YtfconbblnmbnpahDoor
namespace Go.Proofs.YtfconbblnmbnpahDoor
open Go.RowKit

def wiB (n a b : Int) : Bool := decide (a ≤ n) && decide (n ≤ b)
set_option maxRecDepth 100000 in
set_option maxHeartbeats 1000000 in
theorem within_any (n a b : Int) (w : World) : Calls Tryd.prog 20 #[.int .i64 n, .int .i64 a, .int .i64 b] w fun e w' => e = .returned (.bool (wiB n a b)) ∧ w' = w := by
  by_cases h : a ≤ n
  · by_cases h2 : n ≤ b
    · have HB : Hid (wiB n a b = true) := by show _ = _; simp [wiB, h, h2]
      go_enter Tryd.func20, Tryd.ntmps20
      go_wp2
      go_ret
      exact ⟨wretB HB.out.symm, rfl⟩
    · have HB : Hid (wiB n a b = false) := by show _ = _; simp [wiB, h2]
      have h2' : decide (n ≤ b) = false := by simpa using h2
      go_enter Tryd.func20, Tryd.ntmps20
      go_wp2
      go_ret
      exact ⟨wretB HB.out.symm, rfl⟩
  · have HB : Hid (wiB n a b = false) := by show _ = _; simp [wiB, h]
    have h' : decide (a ≤ n) = false := by simpa using h
    go_enter Tryd.func20, Tryd.ntmps20
    go_wp2
    go_ret
    exact ⟨wretB HB.out.symm, rfl⟩
theorem within_of {n a b : Int} {c : Bool} (h : wiB n a b = c) (w : World) : Calls Tryd.prog 20 #[.int .i64 n, .int .i64 a, .int .i64 b] w fun e w' => e = .returned (.bool c) ∧ w' = w := h ▸ within_any n a b w
set_option maxRecDepth 100000 in
set_option maxHeartbeats 1000000 in
theorem trroom_of {n : Int} {c : Bool} (h : wiB n (-1) 4 = c) (w : World) : Calls Tryd.prog 18 #[.int .i64 n] w fun e w' => e = .returned (.bool c) ∧ w' = w := by
  have q := within_of h w
  clear h
  go_enter Tryd.func18, Tryd.ntmps18
  go_wp2_with (go_at_call 20; refine q.mono ?_; rintro e w1 ⟨rfl, hw1⟩; subst hw1)
  go_ret
  exact ⟨rfl, rfl⟩
theorem wi_out (a b c d : Int) : evOut (a, b, c, d) = !(wiB a 0 1000000 && wiB b (-1) 4 && wiB c 0 19 && wiB d 0 5) := by
  unfold evOut wiB
  rw [Bool.eq_iff_iff]
  simp only [Bool.or_eq_true, decide_eq_true_eq, Bool.not_eq_true', Bool.and_eq_false_iff, decide_eq_false_iff_not]
  omega
end Go.Proofs.YtfconbblnmbnpahDoor
namespace Go.Proofs.YtfconbblnmbnpahDoor
open Go.RowKit

/-- A state's eight cells, written. -/
def setSt (w : World) (b o : Nat) (s : St) : World := (((((((w.setCell ⟨b, o, none⟩ (.int .i64 s.p)).setCell ⟨b, o + 1, none⟩ (.int .i64 (s.c 0))).setCell ⟨b, o + 2, none⟩ (.int .i64 (s.c 1))).setCell ⟨b, o + 3, none⟩ (.int .i64 (s.c 2))).setCell ⟨b, o + 4, none⟩ (.int .i64 (s.c 3))).setCell ⟨b, o + 5, none⟩ (.int .i64 (s.c 4))).setCell ⟨b, o + 6, none⟩ (.int .i64 (s.c 5))).setCell ⟨b, o + 7, none⟩ (.bool s.f)
theorem setSt_touch {M : List Nat} (w : World) {b : Nat} (hb : b ∈ M) (o : Nat) (s : St) : KTouch M w (setSt w b o s) :=
  (((((((KTouch.set w hb _ _).trans (KTouch.set _ hb _ _)).trans (KTouch.set _ hb _ _)).trans (KTouch.set _ hb _ _)).trans (KTouch.set _ hb _ _)).trans (KTouch.set _ hb _ _)).trans (KTouch.set _ hb _ _)).trans (KTouch.set _ hb _ _)
theorem setSt_frozen (w : World) (b o : Nat) (s : St) (a : Addr) : (setSt w b o s).frozen? a = w.frozen? a := by
  unfold setSt
  simp only [World.frozen?_setCell]
theorem setCell_far {w : World} {b i j : Nat} {v : Value} (h : i ≠ j) : (w.setCell ⟨b, j, none⟩ v).cell? ⟨b, i, none⟩ = w.cell? ⟨b, i, none⟩ :=
  World.cell?_setCell_other _ _ _ _ (fun e => by injection e with e1 e2; exact h e2.symm)
theorem setSt_off {w : World} {b o : Nat} {s : St} {i : Nat} (h : i < o ∨ o + 8 ≤ i) : (setSt w b o s).cell? ⟨b, i, none⟩ = w.cell? ⟨b, i, none⟩ := by
  unfold setSt
  rw [setCell_far (by omega), setCell_far (by omega), setCell_far (by omega), setCell_far (by omega), setCell_far (by omega), setCell_far (by omega), setCell_far (by omega), setCell_far (by omega)]
theorem setSt_at {w : World} {b o : Nat} {s s' : St} (h : StC w b o s) : StC (setSt w b o s') b o s' := by
  obtain ⟨h0, h1, h2, h3, h4, h5, h6, h7⟩ := h
  unfold setSt
  refine ⟨?_, ?_, ?_, ?_, ?_, ?_, ?_, ?_⟩ <;> simp [go_sem, h0, h1, h2, h3, h4, h5, h6, h7]
theorem StC.off {w w' : World} {b o : Nat} {s : St} (h : StC w b o s) (hc : ∀ i, o ≤ i → i < o + 8 → w'.cell? ⟨b, i, none⟩ = w.cell? ⟨b, i, none⟩) : StC w' b o s :=
  ⟨(hc _ (by omega) (by omega)).trans h.p, (hc _ (by omega) (by omega)).trans h.c0, (hc _ (by omega) (by omega)).trans h.c1, (hc _ (by omega) (by omega)).trans h.c2, (hc _ (by omega) (by omega)).trans h.c3, (hc _ (by omega) (by omega)).trans h.c4, (hc _ (by omega) (by omega)).trans h.c5, (hc _ (by omega) (by omega)).trans h.f⟩
theorem StC.poke {w : World} {b o : Nat} {s : St} (h : StC w b o s) {c : Nat} (hc : c ≤ 5) (n : Int) : StC (w.setCell ⟨b, o + 1 + c, none⟩ (.int .i64 n)) b o (pokeS s c n) := by
  obtain ⟨h0, h1, h2, h3, h4, h5, h6, h7⟩ := h
  match c, hc with
  | 0, _ => refine ⟨?_, ?_, ?_, ?_, ?_, ?_, ?_, ?_⟩ <;> simp [go_sem, pokeS, h0, h1, h2, h3, h4, h5, h6, h7]
  | 1, _ => refine ⟨?_, ?_, ?_, ?_, ?_, ?_, ?_, ?_⟩ <;> simp [go_sem, pokeS, h0, h1, h2, h3, h4, h5, h6, h7]
  | 2, _ => refine ⟨?_, ?_, ?_, ?_, ?_, ?_, ?_, ?_⟩ <;> simp [go_sem, pokeS, h0, h1, h2, h3, h4, h5, h6, h7]
  | 3, _ => refine ⟨?_, ?_, ?_, ?_, ?_, ?_, ?_, ?_⟩ <;> simp [go_sem, pokeS, h0, h1, h2, h3, h4, h5, h6, h7]
  | 4, _ => refine ⟨?_, ?_, ?_, ?_, ?_, ?_, ?_, ?_⟩ <;> simp [go_sem, pokeS, h0, h1, h2, h3, h4, h5, h6, h7]
  | 5, _ => refine ⟨?_, ?_, ?_, ?_, ?_, ?_, ?_, ?_⟩ <;> simp [go_sem, pokeS, h0, h1, h2, h3, h4, h5, h6, h7]
/-- An event in its box. -/
def EvB (W : World) (b : Nat) (t r a q : Int) : Prop := W.heap[b]? = some (.cells #[.int .i64 t, .int .i64 r, .int .i64 a, .int .i64 q] 52 (0, 0))
theorem EvB.lt {W : World} {b : Nat} {t r a q : Int} (h : EvB W b t r a q) : b < W.heap.size := (Array.getElem?_eq_some_iff.1 h).1
theorem EvB.cs {W : World} {b : Nat} {t r a q : Int} (h : EvB W b t r a q) : W.cell? ⟨b, 0, none⟩ = some (.int .i64 t) ∧ W.cell? ⟨b, 1, none⟩ = some (.int .i64 r) ∧ W.cell? ⟨b, 2, none⟩ = some (.int .i64 a) ∧ W.cell? ⟨b, 3, none⟩ = some (.int .i64 q) := by
  have e : W.heap[b]? = _ := h
  simp [World.cell?, e]
theorem EvB.fs {W : World} {b : Nat} {t r a q : Int} (h : EvB W b t r a q) : W.frozen? ⟨b, 0, none⟩ = false ∧ W.frozen? ⟨b, 1, none⟩ = false ∧ W.frozen? ⟨b, 2, none⟩ = false ∧ W.frozen? ⟨b, 3, none⟩ = false := by
  have e : W.heap[b]? = _ := h
  simp [World.frozen?, e]
theorem EvB.set {W : World} {b : Nat} {t r a q : Int} (h : EvB W b t r a q) (t' r' a' q' : Int) : EvB ((((W.setCell ⟨b, 0, none⟩ (.int .i64 t')).setCell ⟨b, 1, none⟩ (.int .i64 r')).setCell ⟨b, 2, none⟩ (.int .i64 a')).setCell ⟨b, 3, none⟩ (.int .i64 q')) b t' r' a' q' := by
  have e : W.heap[b]? = _ := h
  unfold EvB
  simp [World.setCell, Array.getElem?_modify, e]
theorem EvB.at {W : World} {b : Nat} {t r a q : Int} (h : EvB W b t r a q) (a' : Int) : EvB (W.setCell ⟨b, 2, none⟩ (.int .i64 a')) b t r a' q := by
  have e : W.heap[b]? = _ := h
  unfold EvB
  simp [World.setCell, Array.getElem?_modify, e]
theorem EvB.what {W : World} {b : Nat} {t r a q : Int} (h : EvB W b t r a q) (q' : Int) : EvB (W.setCell ⟨b, 3, none⟩ (.int .i64 q')) b t r a q' := by
  have e : W.heap[b]? = _ := h
  unfold EvB
  simp [World.setCell, Array.getElem?_modify, e]
/-- A state in its box. -/
def StB (W : World) (b : Nat) (s : St) : Prop := W.heap[b]? = some (.cells #[.int .i64 s.p, .int .i64 (s.c 0), .int .i64 (s.c 1), .int .i64 (s.c 2), .int .i64 (s.c 3), .int .i64 (s.c 4), .int .i64 (s.c 5), .bool s.f] 79 (0, 0))
theorem StB.cs {W : World} {b : Nat} {s : St} (h : StB W b s) : StC W b 0 s := by
  have e : W.heap[b]? = _ := h
  refine ⟨?_, ?_, ?_, ?_, ?_, ?_, ?_, ?_⟩ <;> simp [World.cell?, e]
/-- Both boxes of a tick, the result's and its own. -/
structure Ev (w W : World) (e2 : Nat) (t r a q : Int) : Prop where
  res : EvB W w.heap.size 0 0 0 0
  own : EvB W e2 t r a q
  ne : e2 ≠ w.heap.size
  ge : w.heap.size ≤ e2
/-- The box laid ahead of the call. -/
theorem ev_box {w w1 : World} (b1 : Below (((w.alloc (.cells #[.int .i64 0, .int .i64 0, .int .i64 0, .int .i64 0] 52)).alloc (.cells #[.int .i64 0, .int .i64 0, .int .i64 0, .int .i64 0] 52)).drew).heap.size (((w.alloc (.cells #[.int .i64 0, .int .i64 0, .int .i64 0, .int .i64 0] 52)).alloc (.cells #[.int .i64 0, .int .i64 0, .int .i64 0, .int .i64 0] 52)).drew) w1) :
    (w1.cell? ⟨w.heap.size + 1, 0, none⟩ = some (.int .i64 0) ∧ w1.cell? ⟨w.heap.size + 1, 1, none⟩ = some (.int .i64 0) ∧ w1.cell? ⟨w.heap.size + 1, 2, none⟩ = some (.int .i64 0) ∧ w1.cell? ⟨w.heap.size + 1, 3, none⟩ = some (.int .i64 0)) ∧ w1.frozen? ⟨w.heap.size + 1, 0, none⟩ = false ∧ w1.frozen? ⟨w.heap.size + 1, 1, none⟩ = false ∧ w1.frozen? ⟨w.heap.size + 1, 2, none⟩ = false ∧ w1.frozen? ⟨w.heap.size + 1, 3, none⟩ = false := by
  have hc := fun o => b1.cell (p := ⟨w.heap.size + 1, o, none⟩) (by simp)
  have hf := fun o => b1.frozen (p := ⟨w.heap.size + 1, o, none⟩) (by simp)
  exact ⟨⟨(hc 0).trans (by simp), (hc 1).trans (by simp), (hc 2).trans (by simp), (hc 3).trans (by simp)⟩, (hf 0).trans (by simp), (hf 1).trans (by simp), (hf 2).trans (by simp), (hf 3).trans (by simp)⟩
/-- The cells of a state are there, and may be written. -/
theorem there_st {W : World} {b o : Nat} {s : St} (h : StC W b o s) (hf : ∀ i, W.frozen? ⟨b, i, none⟩ = false) (nq : Nat) : (W.drewN nq).there b o 8 := by
  obtain ⟨s0, s1, s2, s3, s4, s5, s6, s7⟩ := h
  intro j hj
  have hb : Below W.heap.size W (W.drewN nq) := below_dN (Below.refl _ _) nq
  have hlt : b < W.heap.size := World.block_lt_of_cell? W _ s0
  rw [hb.cell (p := ⟨b, o + j, none⟩) hlt, hb.frozen (p := ⟨b, o + j, none⟩) hlt]
  refine ⟨?_, hf _⟩
  match j, hj with
  | 0, _ => rw [Nat.add_zero, s0]; rfl
  | 1, _ => rw [s1]; rfl
  | 2, _ => rw [s2]; rfl
  | 3, _ => rw [s3]; rfl
  | 4, _ => rw [s4]; rfl
  | 5, _ => rw [s5]; rfl
  | 6, _ => rw [s6]; rfl
  | 7, _ => rw [s7]; rfl
end Go.Proofs.YtfconbblnmbnpahDoor
namespace Go.Proofs.YtfconbblnmbnpahDoor
open Go.RowKit

/-- States as cells. -/
def stCells (l : List St) : List Value := l.flatMap fun s => [.int .i64 s.p, .int .i64 (s.c 0), .int .i64 (s.c 1), .int .i64 (s.c 2), .int .i64 (s.c 3), .int .i64 (s.c 4), .int .i64 (s.c 5), .bool s.f]
theorem stCells_snoc (l : List St) (s : St) : stCells (l ++ [s]) = stCells l ++ [.int .i64 s.p, .int .i64 (s.c 0), .int .i64 (s.c 1), .int .i64 (s.c 2), .int .i64 (s.c 3), .int .i64 (s.c 4), .int .i64 (s.c 5), .bool s.f] := by simp [stCells]
theorem stCells_at : ∀ (l : List St) (i : Nat) (s : St), l[i]? = some s → (stCells l)[i * 8]? = some (.int .i64 s.p) ∧ (stCells l)[i * 8 + 1]? = some (.int .i64 (s.c 0)) ∧ (stCells l)[i * 8 + 2]? = some (.int .i64 (s.c 1)) ∧ (stCells l)[i * 8 + 3]? = some (.int .i64 (s.c 2)) ∧ (stCells l)[i * 8 + 4]? = some (.int .i64 (s.c 3)) ∧ (stCells l)[i * 8 + 5]? = some (.int .i64 (s.c 4)) ∧ (stCells l)[i * 8 + 6]? = some (.int .i64 (s.c 5)) ∧ (stCells l)[i * 8 + 7]? = some (.bool s.f)
  | [], i, s, h => by simp at h
  | x :: l, 0, s, h => by simp at h; subst h; simp [stCells]
  | x :: l, i + 1, s, h => by
    have h1 := stCells_at l i s (by simpa using h)
    have e : ∀ j, (stCells (x :: l))[(i + 1) * 8 + j]? = (stCells l)[i * 8 + j]? := fun j => by
      show ([.int .i64 x.p, .int .i64 (x.c 0), .int .i64 (x.c 1), .int .i64 (x.c 2), .int .i64 (x.c 3), .int .i64 (x.c 4), .int .i64 (x.c 5), .bool x.f] ++ stCells l)[(i + 1) * 8 + j]? = _
      rw [List.getElem?_append_right (by simp; omega)]
      congr 1
      simp
      omega
    exact ⟨(e 0).trans h1.1, (e 1).trans h1.2.1, (e 2).trans h1.2.2.1, (e 3).trans h1.2.2.2.1, (e 4).trans h1.2.2.2.2.1, (e 5).trans h1.2.2.2.2.2.1, (e 6).trans h1.2.2.2.2.2.2.1, (e 7).trans h1.2.2.2.2.2.2.2⟩
theorem st_one (s : St) : ∀ u ∈ [Value.int .i64 s.p, .int .i64 (s.c 0), .int .i64 (s.c 1), .int .i64 (s.c 2), .int .i64 (s.c 3), .int .i64 (s.c 4), .int .i64 (s.c 5), .bool s.f], u.oneCell' = true := by
  intro u hu
  simp only [List.mem_cons, List.not_mem_nil, or_false] at hu
  rcases hu with rfl | rfl | rfl | rfl | rfl | rfl | rfl | rfl <;> rfl
theorem st_new {w : World} {k : Nat} (hk : k = w.heap.size) (s : St) (t : TypeId) : ∀ j u, [Value.int .i64 s.p, .int .i64 (s.c 0), .int .i64 (s.c 1), .int .i64 (s.c 2), .int .i64 (s.c 3), .int .i64 (s.c 4), .int .i64 (s.c 5), .bool s.f][j]? = some u → (w.alloc (.cells #[.int .i64 s.p, .int .i64 (s.c 0), .int .i64 (s.c 1), .int .i64 (s.c 2), .int .i64 (s.c 3), .int .i64 (s.c 4), .int .i64 (s.c 5), .bool s.f] t)).cell? ((⟨k, 0, none⟩ : Addr).add j) = some u := by
  intro j u hj
  subst hk
  rw [Addr.add_lit, Nat.zero_add]
  match j, hj with
  | 0, hj => simp at hj; subst hj; simp
  | 1, hj => simp at hj; subst hj; simp
  | 2, hj => simp at hj; subst hj; simp
  | 3, hj => simp at hj; subst hj; simp
  | 4, hj => simp at hj; subst hj; simp
  | 5, hj => simp at hj; subst hj; simp
  | 6, hj => simp at hj; subst hj; simp
  | 7, hj => simp at hj; subst hj; simp
  | j + 8, hj => simp at hj
theorem infoSt : (Tryd.prog.info? 79).map (fun i => (i.zero, i.size, i.bytes)) = some (some (.agg #[.int .i64 0, .int .i64 0, .int .i64 0, .int .i64 0, .int .i64 0, .int .i64 0, .int .i64 0, .bool false]), 8, 64) := by kernel_rfl
end Go.Proofs.YtfconbblnmbnpahDoor
namespace Go.Proofs.YtfconbblnmbnpahDoor
open Go.RowKit

/-- What package kernel does, in every world of a kind: K w0 w p vc vs vw k kb F: made in the world w0, of the plan p that lay there, a kernel lies at block kb; it is k, and all that it has lies in the blocks F. -/
structure KerN (G : World → Prop) where
  K : World → World → PD → Value → Value → Value → KD → Nat → List Nat → Prop
  all : ∀ w w', G w → Below w.heap.size w w' → G w'
  since : ∀ {w0 w p vc vs vw k kb F}, K w0 w p vc vs vw k kb F → Below w0.heap.size w0 w
  ge : ∀ {w0 w p vc vs vw k kb F}, K w0 w p vc vs vw k kb F → ∀ g ∈ F, w0.heap.size ≤ g ∧ g < w.heap.size
  lower : ∀ {w1 w0 w p vc vs vw k kb F}, Below w1.heap.size w1 w0 → K w0 w p vc vs vw k kb F → K w1 w p vc vs vw k kb F
  frame : ∀ {w0 w w' p vc vs vw k kb F M}, K w0 w p vc vs vw k kb F → KTouch M w w' → (∀ m ∈ M, m ∉ F ∧ w0.heap.size ≤ m) → K w0 w' p vc vs vw k kb F
  new : ∀ (p : PD) (vc vs vw : Value) (W : World), G W → Pln W vc vs vw p → plchk p = 0 → Calls Tryd.prog 19 #[plV vc p.ticks vs vw] W fun e w' => ∃ kb F, e = .returned (.tuple #[.pointer (some ⟨kb, 0, none⟩), .nilIface]) ∧ K W w' p vc vs vw (newK p) kb F
  no : ∀ (p : PD) (vc vs vw : Value) (W : World), G W → Pln W vc vs vw p → plchk p ≠ 0 → Calls Tryd.prog 19 #[plV vc p.ticks vs vw] W fun e w' => ∃ x, e = .returned (.tuple #[.pointer x, wErr (plchk p)]) ∧ Below W.heap.size W w'
  tick : ∀ {w0 W p vc vs vw k kb F}, G w0 → K w0 W p vc vs vw k kb F → plchk p = 0 → KOk p k → k.time < 100000000 → Calls Tryd.prog 21 #[.pointer (some ⟨kb, 0, none⟩)] W fun e w' => e = .returned (evA (tickK p p.spans k).2) ∧ ∃ F', K w0 w' p vc vs vw (tickK p p.spans k).1 kb F' ∧ KTouch F W w' ∧ ∀ g ∈ F', g ∈ F ∨ W.heap.size ≤ g
end Go.Proofs.YtfconbblnmbnpahDoor
namespace Go.Proofs.YtfconbblnmbnpahDoor
open Go.ChangeShapes Go.WideShapes Go.ChangeAt Go.WideElems Go.RowKit

theorem gForms : Tryd.prog.globalNamed "framekeep/code.forms" = some 1 := by kernel_rfl
theorem tForms : (Tryd.prog.globals[1]?).map (·.type) = some 152 := by kernel_rfl
theorem cStr : Tryd.prog.cellsOf 9 = 1 := by kernel_rfl
theorem cInt : Tryd.prog.cellsOf 3 = 1 := by kernel_rfl
theorem cTwo : Tryd.prog.cellsOf 149 = 2 := by kernel_rfl
theorem cForm : Tryd.prog.cellsOf 151 = 3 := by kernel_rfl

theorem len2 {α : Type} {l : List α} (h : l.length = 2) : ∃ a b, l = [a, b] := by
  match l, h with
  | [a, b], _ => exact ⟨a, b, rfl⟩
theorem len3 {α : Type} {l : List α} (h : l.length = 3) : ∃ a b c, l = [a, b, c] := by
  match l, h with
  | [a, b, c], _ => exact ⟨a, b, c, rfl⟩
theorem two_one {H : Type} {enc : TypeId × Value → H} {w : World} {base : Nat} {sp : Nat → Bool} {held : Bool} {fuel : Nat} {cs : List Value} {p q : Int} {pl : List MemPlace}
    (h : DataW.trod enc Tryd.prog w base sp held fuel 149 cs = some (.agg [.lit (.int .i64 p), .lit (.int .i64 q)], pl)) : cs = [.int .i64 p, .int .i64 q] := by
  have := Lib.cells_of_tab (k := .i64) (zs := [p, q]) Tryd.underlying149 Tryd.underlying3 cInt cTwo h
  simpa using this
theorem form_one {H : Type} {enc : TypeId × Value → H} {w : World} {base : Nat} {sp : Nat → Bool} {held : Bool} {fuel : Nat} {cs : List Value} {s : List UInt8} {p q : Int} {pl : List MemPlace}
    (h : DataW.trod enc Tryd.prog w base sp held fuel 151 cs = some (.agg [.lit (.string s), .agg [.lit (.int .i64 p), .lit (.int .i64 q)]], pl)) : cs = [.string ⟨s.toArray⟩, .int .i64 p, .int .i64 q] := by
  obtain ⟨xs, n, _, hx, hl, hxl, hf⟩ := DataW.trod_struct Tryd.underlying151 h
  rw [cForm] at hl
  have f0 : DataW.trod enc Tryd.prog w base sp held n 9 ((cs.drop 0).take (Tryd.prog.cellsOf 9)) = xs[0]? := hf 0 _ rfl
  have f1 : DataW.trod enc Tryd.prog w base sp held n 149 ((cs.drop 1).take (Tryd.prog.cellsOf 149)) = xs[1]? := hf 1 _ rfl
  rw [cStr] at f0
  rw [cTwo] at f1
  simp only [Prod.mk.injEq, DataW.agg.injEq] at hx
  obtain ⟨c0, c1, c2, rfl⟩ := len3 hl
  have hxl2 : xs.length = 2 := hxl
  obtain ⟨x0, x1, rfl⟩ := len2 hxl2
  simp only [List.map_cons, List.map_nil, List.cons.injEq, and_true] at hx
  simp at f0 f1
  obtain ⟨y0, z0⟩ := x0
  obtain ⟨y1, z1⟩ := x1
  simp only at hx
  rw [← hx.1.1] at f0
  rw [← hx.1.2] at f1
  obtain ⟨b, hb, hb2, _⟩ := DataW.trod_string Tryd.underlying9 f0
  simp only [Prod.mk.injEq, DataW.lit.injEq, Lit.string.injEq] at hb2
  have h2 := two_one f1
  simp only [List.cons.injEq, and_true] at hb h2
  obtain ⟨rfl, rfl⟩ := h2
  rw [hb, hb2.1]

/-- The rows of the table of forms. -/
def formRows : List (List UInt8 × Int × Int) := [([], 0, 0), ([115, 101, 116], 6, 1000), ([99, 111, 112, 121], 6, 6), ([97, 100, 100], 6, 6), ([115, 117, 98], 6, 6), ([109, 117, 108], 6, 6), ([122, 101, 114, 111], 6, 0), ([106, 117, 109, 112], 1, 0), ([115, 101, 110, 100], 6, 12), ([116, 97, 107, 101], 6, 12), ([114, 101, 115, 116], 1, 1), ([102, 97, 105, 108], 1, 1)]
def formD {H : Type} (r : List UInt8 × Int × Int) : DataW H := .agg [.lit (.string r.1), .agg [.lit (.int .i64 r.2.1), .lit (.int .i64 r.2.2)]]
theorem forms_of_head {W : World} {rest : List (String × DataW Unit)} (h : laidMet Tryd.prog (("framekeep/code.forms", .agg (formRows.map formD)) :: rest) W) : Forms W := by
  obtain ⟨ps, ⟨g', t', cs, fuel, p, q, hg', ht', hvar, hd, _, _⟩, _⟩ := h
  obtain rfl := Option.some.inj (gForms.symm.trans hg')
  obtain rfl := Option.some.inj (tForms.symm.trans ht')
  obtain ⟨xs, m, _, hx, _, hxl, hel⟩ := DataW.trod_array Tryd.underlying152 hd
  simp only [Prod.mk.injEq, DataW.agg.injEq] at hx
  have hrow : ∀ (i : Nat) r, formRows[i]? = some r → (cs.toList.drop (i * 3)).take 3 = [.string ⟨r.1.toArray⟩, .int .i64 r.2.1, .int .i64 r.2.2] := by
    intro i r hr
    have hi : i < 12 := by
      rcases Nat.lt_or_ge i 12 with h | h
      · exact h
      · rw [List.getElem?_eq_none (show formRows.length ≤ i from h)] at hr; cases hr
    have e1 := hel i hi
    rw [cForm] at e1
    have e2 : (xs.map (·.1))[i]? = some (formD r) := by rw [← hx.1]; simp [hr]
    simp only [List.getElem?_map, Option.map_eq_some_iff] at e2
    obtain ⟨⟨y, z⟩, hy, rfl⟩ := e2
    rw [hy] at e1
    exact form_one e1
  have hcell := fun i => World.var?_cell hg' hvar i
  have hat : ∀ (i j : Nat) r u, formRows[i]? = some r → j < 3 → ([.string ⟨r.1.toArray⟩, .int .i64 r.2.1, .int .i64 r.2.2] : List Value)[j]? = some u → W.cell? ⟨1, i * 3 + j, none⟩ = some u := by
    intro i j r u hr hj hu
    rw [← hrow i r hr] at hu
    rw [List.getElem?_take, if_pos hj, List.getElem?_drop] at hu
    rw [hcell]
    simpa using hu
  intro i v hv
  have hi : i < 36 := by
    rcases Nat.lt_or_ge i 36 with h | h
    · exact h
    · rw [List.getElem?_eq_none (show formsCells.length ≤ i from h)] at hv; cases hv
  have key : ∀ i, i < 36 → ∀ v, formsCells[i]? = some v → ∃ r, formRows[i / 3]? = some r ∧ ([.string ⟨r.1.toArray⟩, .int .i64 r.2.1, .int .i64 r.2.2] : List Value)[i % 3]? = some v := by
    intro i hi v hv
    match i, hi with
    | 0, _ | 1, _ | 2, _ | 3, _ | 4, _ | 5, _ | 6, _ | 7, _ | 8, _ | 9, _ | 10, _ | 11, _ | 12, _ | 13, _ | 14, _ | 15, _ | 16, _ | 17, _ | 18, _ | 19, _ | 20, _ | 21, _ | 22, _ | 23, _ | 24, _ | 25, _ | 26, _ | 27, _ | 28, _ | 29, _ | 30, _ | 31, _ | 32, _ | 33, _ | 34, _ | 35, _ => exact ⟨_, rfl, hv⟩
    | i + 36, h => omega
  obtain ⟨r, h1, h2⟩ := key i hi v hv
  have := hat (i / 3) (i % 3) r v h1 (Nat.mod_lt _ (by decide)) h2
  rwa [show i / 3 * 3 + i % 3 = i by omega] at this
end Go.Proofs.YtfconbblnmbnpahDoor
namespace Go.Proofs.YtfconbblnmbnpahDoor
open Go.RowKit

/-- A kernel behind t ticks; the row has what was told of them. -/
structure TrK {G : World → Prop} (C : KerN G) (w0 wr : World) (p : PD) (vc vs vw : Value) (kb B t : Nat) (v : Value) (F : List Nat) : Prop where
  K : C.K w0 wr p vc vs vw (kT p t) kb F
  own : wr.ownsRow B 52 4 v t (wrCells (runL p t))
  ap : ∀ g, v.ownBlock = some g → g ∉ F
  B1 : w0.heap.size ≤ B
  B2 : B ≤ wr.heap.size
/-- A tick: what is told, the kernel then; and the row as it was. -/
theorem TrK.tick {G : World → Prop} {C : KerN G} {w0 wr : World} {p : PD} {vc vs vw : Value} {kb B t : Nat} {v : Value} {F : List Nat} (h : TrK C w0 wr p vc vs vw kb B t v F) (hG : G w0) (hp : plchk p = 0) (ht : t < 1000000) :
    Calls Tryd.prog 21 #[.pointer (some ⟨kb, 0, none⟩)] wr fun e w' => e = .returned (.agg #[.int .i64 (evK p (kT p t)).1, .int .i64 (evK p (kT p t)).2.1, .int .i64 (evK p (kT p t)).2.2.1, .int .i64 (evK p (kT p t)).2.2.2]) ∧ ∃ F', C.K w0 w' p vc vs vw (kT p (t + 1)) kb F' ∧ w'.ownsRow B 52 4 v t (wrCells (runL p t)) ∧ (∀ g, v.ownBlock = some g → g ∉ F') ∧ B ≤ w'.heap.size := by
  refine (C.tick hG h.K hp (kT_ok hp t) (by rw [kT_time]; omega)).mono ?_
  rintro e w' ⟨rfl, F', hK', tk', hF'⟩
  refine ⟨rfl, F', hK', own_block h.own (fun g hg => tk'.block g (h.own.lt g hg).2 (h.ap g hg)), fun g hg hm => ?_, Nat.le_trans h.B2 tk'.size⟩
  rcases hF' g hm with h1 | h1
  · exact h.ap g hg h1
  · have := (h.own.lt g hg).2
    omega
/-- The row has one more. -/
theorem trk_more {G : World → Prop} {C : KerN G} {w0 w3 w5 w8 : World} {p : PD} {vc vs vw : Value} {kb B t : Nat} {v v1 : Value} {F : List Nat} (hK : C.K w0 w3 p vc vs vw (kT p (t + 1)) kb F) (own : w3.ownsRow B 52 4 v t (wrCells (runL p t))) (ap : ∀ g, v.ownBlock = some g → g ∉ F) (hB1 : w0.heap.size ≤ B) (hB2 : B ≤ w3.heap.size) (hb5 : Below w3.heap.size w3 w5) (hg : w5.grownBy w8 v.ownBlock)
    (own8 : w8.ownsRow B 52 4 v1 (t + 1) (wrCells (runL p t) ++ [.int .i64 (evK p (kT p t)).1, .int .i64 (evK p (kT p t)).2.1, .int .i64 (evK p (kT p t)).2.2.1, .int .i64 (evK p (kT p t)).2.2.2])) (hnw : ∀ k, v1.ownBlock = some k → v.ownBlock = some k ∨ w5.heap.size ≤ k) : TrK C w0 w8 p vc vs vw kb B (t + 1) v1 F := by
  have tk : KTouch v.ownBlock.toList w3 w8 := ⟨hg.os.trans hb5.os, hg.tape.trans hb5.tape, hg.output.trans hb5.output, Nat.le_trans hb5.size hg.size, fun k hk hm => by
    have := hb5.size
    exact (hg.block k (by omega) (fun e => hm (by rw [← e]; simp))).trans (hb5.block k hk)⟩
  have hs5 := hb5.size
  have hm1 : ∀ m ∈ v.ownBlock.toList, v.ownBlock = some m := fun m hm => by simpa using hm
  refine ⟨C.frame hK tk (fun m hm => ⟨ap m (hm1 m hm), Nat.le_trans hB1 (own.lt m (hm1 m hm)).1⟩), ?_, fun g hg2 hm => ?_, hB1, Nat.le_trans hB2 tk.size⟩
  · rw [runL_succ, wrCells_snoc]
    exact own8
  · rcases hnw g hg2 with h1 | h1
    · exact ap g h1 hm
    · have := (C.ge hK g hm).2
      omega
set_option maxRecDepth 100000 in
set_option maxHeartbeats 8000000 in
theorem trun_wrong {G : World → Prop} (C : KerN G) (p : PD) (vc vs vw : Value) (n : Int) (W : World) (hG : G W) (hP : Pln W vc vs vw p) (hp : plchk p ≠ 0) :
    Calls Tryd.prog 9 #[plV vc p.ticks vs vw, .int .i64 n] W fun e w' => e = .returned (.tuple #[.slice none 0 0, wErr (plchk p)]) ∧ Below W.heap.size W w' := by
  obtain ⟨ca, cc, rfl⟩ := hP.code.form
  obtain ⟨sa, sc, rfl⟩ := hP.spans.form
  obtain ⟨wa, wc', rfl⟩ := hP.wires.form
  have hx0 := Bx.first W (.slice ca p.code.length cc) p.ticks (.slice sa p.spans.length sc) (.slice wa p.wires.length wc')
  have q1 := C.no p _ _ _ _ (C.all _ _ hG hx0.below) (hP.all hx0.below) hp
  rw [wErr_not hp] at q1 ⊢
  unfold plV at q1 ⊢
  have k0 := hx0.c0
  have k1 := hx0.c1
  have k2 := hx0.c2
  have k3 := hx0.c3
  clear hP hG
  generalize plchk p = z at q1 hp ⊢
  go_enter Tryd.func9, Tryd.ntmps9
  go_wp2_with (go_at_call 19; refine q1.mono ?_; rintro e w1 ⟨x, rfl, b1⟩)
  go_ret2
  exact ⟨rfl, (hx0.step b1).below⟩
set_option maxRecDepth 100000 in
set_option maxHeartbeats 8000000 in
theorem trun_n {G : World → Prop} (C : KerN G) (p : PD) (vc vs vw : Value) (n : Int) (W : World) (hG : G W) (hP : Pln W vc vs vw p) (hp : plchk p = 0) (hn : n < 0 ∨ 2000 < n) :
    Calls Tryd.prog 9 #[plV vc p.ticks vs vw, .int .i64 n] W fun e w' => e = .returned (.tuple #[.slice none 0 0, wErr 1]) ∧ Below W.heap.size W w' := by
  obtain ⟨ca, cc, rfl⟩ := hP.code.form
  obtain ⟨sa, sc, rfl⟩ := hP.spans.form
  obtain ⟨wa, wc', rfl⟩ := hP.wires.form
  have hx0 := Bx.first W (.slice ca p.code.length cc) p.ticks (.slice sa p.spans.length sc) (.slice wa p.wires.length wc')
  have q1 : Calls Tryd.prog 19 #[.agg #[.slice ca p.code.length cc, .int .i64 p.ticks, .slice sa p.spans.length sc, .slice wa p.wires.length wc']] (W.alloc (.cells #[.slice ca p.code.length cc, .int .i64 p.ticks, .slice sa p.spans.length sc, .slice wa p.wires.length wc'] 34)) fun e w' => ∃ kb, e = .returned (.tuple #[.pointer (some ⟨kb, 0, none⟩), .nilIface]) ∧ Below W.heap.size W w' := by
    refine (C.new p _ _ _ _ (C.all _ _ hG hx0.below) (hP.all hx0.below) hp).mono ?_
    rintro e w' ⟨kb, F, rfl, hK⟩
    exact ⟨kb, rfl, hx0.below.trans ((C.since hK).mono (by simp))⟩
  unfold plV
  have k0 := hx0.c0
  have k1 := hx0.c1
  have k2 := hx0.c2
  have k3 := hx0.c3
  have hwi : wiB n 0 2000 = false := by
    unfold wiB
    rcases hn with h | h
    · rw [decide_eq_false (show ¬ 0 ≤ n by omega)]; rfl
    · rw [decide_eq_false (show ¬ n ≤ 2000 by omega)]; simp
  have qw := fun w => within_of hwi w
  clear hP hG hp hn hwi
  go_enter Tryd.func9, Tryd.ntmps9
  go_wp2_with (first | (go_at_call 19; refine q1.mono ?_; rintro e w1 ⟨kb, rfl, b1⟩) | (go_at_call 20; refine (qw _).mono ?_; rintro e w2 ⟨rfl, hw2⟩; obtain rfl := hw2.symm))
  go_ret2
  exact ⟨rfl, b1⟩
set_option maxRecDepth 100000 in
set_option maxHeartbeats 8000000 in
theorem trun_ok {G : World → Prop} (C : KerN G) (p : PD) (vc vs vw : Value) (n : Nat) (W : World) (hG : G W) (hP : Pln W vc vs vw p) (hp : plchk p = 0) (hn : n ≤ 2000) :
    Calls Tryd.prog 9 #[plV vc p.ticks vs vw, .int .i64 n] W fun e w' => ∃ v, e = .returned (.tuple #[v, .nilIface]) ∧ Wrs w' v (runL p n) ∧ Below W.heap.size W w' := by
  obtain ⟨jj, hj, hy0, hy1, hy2⟩ := info_parts infoEv
  obtain ⟨ca, cc, rfl⟩ := hP.code.form
  obtain ⟨sa, sc, rfl⟩ := hP.spans.form
  obtain ⟨wa, wc', rfl⟩ := hP.wires.form
  have hx0 := Bx.first W (.slice ca p.code.length cc) p.ticks (.slice sa p.spans.length sc) (.slice wa p.wires.length wc')
  have HG : Hid (G (W.alloc (.cells #[.slice ca p.code.length cc, .int .i64 p.ticks, .slice sa p.spans.length sc, .slice wa p.wires.length wc'] 34))) := C.all _ _ hG hx0.below
  have hA := hx0.below
  have HN : Hid (Calls Tryd.prog 19 #[.agg #[.slice ca p.code.length cc, .int .i64 p.ticks, .slice sa p.spans.length sc, .slice wa p.wires.length wc']] (W.alloc (.cells #[.slice ca p.code.length cc, .int .i64 p.ticks, .slice sa p.spans.length sc, .slice wa p.wires.length wc'] 34)) fun e w' => ∃ kb F, e = .returned (.tuple #[.pointer (some ⟨kb, 0, none⟩), .nilIface]) ∧ C.K (W.alloc (.cells #[.slice ca p.code.length cc, .int .i64 p.ticks, .slice sa p.spans.length sc, .slice wa p.wires.length wc'] 34)) w' p (.slice ca p.code.length cc) (.slice sa p.spans.length sc) (.slice wa p.wires.length wc') (newK p) kb F) := C.new p _ _ _ _ HG.out (hP.all hx0.below) hp
  unfold plV
  have k0 := hx0.c0
  have k1 := hx0.c1
  have k2 := hx0.c2
  have k3 := hx0.c3
  have hwi : wiB (n : Int) 0 2000 = true := by
    unfold wiB
    rw [decide_eq_true (show (0 : Int) ≤ n by omega), decide_eq_true (show (n : Int) ≤ 2000 by omega)]; rfl
  have qw := fun w => within_of hwi w
  have HP : Hid (plchk p = 0) := hp
  clear hP hG hwi hp
  go_enter Tryd.func9, Tryd.ntmps9
  go_wp2_with (first | (go_at_call 19; refine HN.out.mono ?_; rintro e w1 ⟨kb, F, rfl, hK⟩) | (go_at_call 20; refine (qw _).mono ?_; rintro e w2 ⟨rfl, hw2⟩; obtain rfl := hw2.symm))
  clear HN qw
  generalize W.alloc (.cells #[.slice ca p.code.length cc, .int .i64 p.ticks, .slice sa p.spans.length sc, .slice wa p.wires.length wc'] 34) = W0 at *
  go_loopw [8, 22] (fun v i wr => ∃ (t : Nat) (F : List Nat), t ≤ n ∧ i = .int .i64 t ∧ TrK C W0 wr p (.slice ca p.code.length cc) (.slice sa p.spans.length sc) (.slice wa p.wires.length wc') kb w1.heap.size t v F) (fun _ i _ => n - (intOf i).toNat)
  case atStart => exact ⟨0, F, Nat.zero_le _, rfl, hK, World.ownsRow_nil _ _ _ _, fun g hg => (by cases hg), (C.since hK).size, Nat.le_refl _⟩
  case round =>
    clear hK
    obtain ⟨t, F', htn, rfl, hst⟩ := hrel
    obtain ⟨vo, vk, hvf⟩ := own4_form hst.own
    subst hvf
    have hbw := C.since hst.K
    by_cases htl : t < n
    · have hti : (t : Int) < (n : Int) := by omega
      have q3 := hst.tick HG.out HP.out (show t < 1000000 by omega)
      have hB1 := hst.B1
      obtain ⟨⟨x0, x1, x2, x3⟩, hev⟩ : ∃ x, evK p (kT p t) = x := ⟨_, rfl⟩
      have HEV : Hid (evK p (kT p t) = (x0, x1, x2, x3)) := hev
      rw [hev] at q3
      clear hev hst hbw
      go_wp2_with (first
        | (go_at_call 21; refine q3.mono ?_; rintro e w3 ⟨rfl, F3, hK3, own3, ap3, sz3⟩; clear q3)
        | (at_builtin; refine wpList_append_at _ rfl _ _ 35 rfl w1.heap.size 52 jj _ 4 32 Tryd.underlying35 hj hy0 hy1 hy2 rfl (by decide) _ _ _ rfl (own3.alloc _) ⟨w3.heap.size, 0, none⟩ 1 1 [.int .i64 x0, .int .i64 x1, .int .i64 x2, .int .i64 x3] rfl rfl ?c1A ?c2A ?c3A ?c4A ?c5A ?_))
      case c1A => exact wr_new rfl _ _ _ _ _
      case c2A => exact four_one _ _ _ _
      case c3A => unfold maxLen; omega
      case c4A => omega
      case c5A => simp; omega
      intro v1 w8 own8 hg8 hnw8
      have hb4 : Below w3.heap.size w3 (w3.alloc (.cells #[.int .i64 x0, .int .i64 x1, .int .i64 x2, .int .i64 x3] 52)) := (Below.refl _ _).alloc (Nat.le_refl _) _
      have HN8 : Hid (TrK C W0 w8 p (.slice ca p.code.length cc) (.slice sa p.spans.length sc) (.slice wa p.wires.length wc') kb w1.heap.size (t + 1) v1 F3) := by
        refine trk_more hK3 own3 ap3 hB1 sz3 hb4 hg8 ?_ (fun k hk => by simpa using hnw8 k hk)
        rw [HEV.out]
        exact own8
      clear own8 hg8 hnw8 own3 hK3 ap3
      go_wp2
      go_roundw
      case rel => exact ⟨t + 1, F3, by omega, by go_num, HN8.out⟩
      case measure => simp [intOf]; omega
    · obtain rfl : t = n := by omega
      have hti : decide ((t : Int) < (t : Int)) = false := decide_eq_false (by omega)
      have HS : Hid (Wrs wr (.slice vo t vk) (runL p t)) := evs_of_own (by rw [runL_len]; exact hst.own)
      have HB' : Hid (Below W.heap.size W wr) := hA.trans (hbw.mono hA.size)
      clear hst
      go_wp2
      go_ret2
      exact ⟨_, rfl, HS.out, HB'.out⟩
/-- Run does what the laws of traces ask of it. -/
theorem trc_run {G : World → Prop} (C : KerN G) : TrcRun G := fun p vc vs vw n W hG hP => by
  by_cases hp : plchk p = 0
  · by_cases hn : n < 0 ∨ 2000 < n
    · have he : trE p n = 1 := by unfold trE; rw [if_pos hp, if_pos hn]
      unfold trV
      rw [he]
      refine (trun_n C p vc vs vw n W hG hP hp hn).mono ?_
      rintro e w' ⟨rfl, hb⟩
      exact ⟨_, rfl, Or.inl ⟨rfl, _, _, rfl⟩, hb⟩
    · obtain ⟨n, rfl⟩ : ∃ m : Nat, n = m := ⟨n.toNat, by omega⟩
      have he : trE p (n : Int) = 0 := by unfold trE; rw [if_pos hp, if_neg hn]
      unfold trV
      rw [he, if_pos rfl, Int.toNat_natCast]
      exact trun_ok C p vc vs vw n W hG hP hp (by omega)
  · have he : trE p n = plchk p := by unfold trE; rw [if_neg hp]
    unfold trV
    rw [he, if_neg hp]
    refine (trun_wrong C p vc vs vw n W hG hP hp).mono ?_
    rintro e w' ⟨rfl, hb⟩
    exact ⟨_, rfl, Or.inl ⟨rfl, _, _, rfl⟩, hb⟩
end Go.Proofs.YtfconbblnmbnpahDoor
namespace Go.Proofs.YtfconbblnmbnpahDoor
open Go.RowKit

theorem turns_run {p : PD} {n r : Int} (h : trE p n = 0) (hr : 0 ≤ r ∧ r ≤ 4) : ofE (trV p n) r = 0 ∧ ((trV p n).length : Int) = n ∧ turnsE p.ticks p.spans r 0 n = 0 ∧ turnsV p.ticks p.spans r 0 n = ((ofV (trV p n) r).length : Int) := by
  obtain ⟨h1, h2, h3⟩ := trE_zero h
  have e0 : trV p n = runL p n.toNat := by unfold trV; rw [if_pos h]
  have e1 : ofE (trV p n) r = 0 := by
    rw [e0]
    unfold ofE
    rw [if_pos (runL_ok h1 (by omega)), if_neg (by omega)]
  have e2 : turnsE p.ticks p.spans r 0 n = 0 := by
    unfold turnsE
    have : supE p.ticks p.spans r = 0 := by unfold supE; rw [if_pos (plchk_zero h1).2.2.1, if_neg (by omega)]
    rw [if_pos this, if_neg (by omega)]
  refine ⟨e1, by rw [e0, runL_len]; omega, e2, ?_⟩
  unfold turnsV ofV
  rw [if_pos e1, if_pos e2, e0, runL_of]
  rfl
set_option maxRecDepth 100000 in
set_option maxHeartbeats 4000000 in
theorem trturns_of {G : World → Prop} (hall : ∀ w w', G w → Below w.heap.size w w' → G w') (hR : TrcRun G) (hO : TrcOf G) (hT : SupTurns G) (hE : ∀ (e : Int) (W : World), G W → Calls Tryd.prog 7 #[wErr e, .int .i64 e] W fun r w' => r = .returned (.bool true) ∧ Below W.heap.size W w')
    (p : PD) (vc vs vw : Value) (n r : Int) (w : World) (hG : G w) (hP : Pln w vc vs vw p) : Calls Tryd.prog 4 #[plV vc p.ticks vs vw, .int .i64 n, .int .i64 r] w fun e w' => e = .returned (.bool true) ∧ Below w.heap.size w w' := by
  obtain ⟨ca, cc, rfl⟩ := hP.code.form
  obtain ⟨sa, sc, rfl⟩ := hP.spans.form
  obtain ⟨wa, wc', rfl⟩ := hP.wires.form
  have hx0 := Bx.first w (.slice ca p.code.length cc) p.ticks (.slice sa p.spans.length sc) (.slice wa p.wires.length wc')
  have HR : Hid (∀ W, Below w.heap.size w W → Calls Tryd.prog 9 #[.agg #[.slice ca p.code.length cc, .int .i64 p.ticks, .slice sa p.spans.length sc, .slice wa p.wires.length wc'], .int .i64 n] W fun e w' => ∃ u, e = .returned (.tuple #[u, wErr (trE p n)]) ∧ Wrs w' u (trV p n) ∧ Below W.heap.size W w') := fun W hb => hR p _ _ _ n W (hall _ _ hG hb) (hP.all hb)
  have HT : Hid (∀ W, Below w.heap.size w W → Calls Tryd.prog 10 #[.int .i64 p.ticks, .slice sa p.spans.length sc, .int .i64 r, .int .i64 0, .int .i64 n] W fun e w' => e = .returned (.tuple #[.int .i64 (turnsV p.ticks p.spans r 0 n), wErr (turnsE p.ticks p.spans r 0 n)]) ∧ Below W.heap.size W w') := fun W hb => hT _ _ _ r 0 n W (hall _ _ hG hb) (hP.spans.all hb)
  have HO : Hid (∀ l v r W, Below w.heap.size w W → Wrs W v l → Calls Tryd.prog 8 #[v, .int .i64 r] W fun e w' => ∃ u, e = .returned (.tuple #[u, wErr (ofE l r)]) ∧ Wrs w' u (ofV l r) ∧ Below W.heap.size W w') := fun l v r W hb hl => hO l v r W (hall _ _ hG hb) hl
  have HE : Hid (∀ W, Below w.heap.size w W → Calls Tryd.prog 7 #[.iface 46 (.int .i64 1), .int .i64 1] W fun r w' => r = .returned (.bool true) ∧ Below W.heap.size W w') := fun W hb => hE 1 W (hall _ _ hG hb)
  unfold plV
  clear hR hO hT hE hP
  by_cases hout : n < 0 ∨ 200 < n ∨ r < 0 ∨ 4 < r
  · have q1 := HO.out [] (.slice none 0 0) 5 _ hx0.below (Or.inl ⟨rfl, _, _, rfl⟩)
    rw [show ofE [] 5 = 1 by decide +kernel, show wErr 1 = .iface 46 (.int .i64 1) from rfl] at q1
    have hcase : decide (n < 0) = true ∨ (decide (n < 0) = false ∧ (decide (200 < n) = true ∨ (decide (200 < n) = false ∧ (decide (r < 0) = true ∨ (decide (r < 0) = false ∧ decide (4 < r) = true))))) := by
      simp only [decide_eq_true_eq, decide_eq_false_iff_not]
      omega
    clear HR HT HO hout
    rcases hcase with d1 | ⟨d1, d2 | ⟨d2, d3 | ⟨d3, d4⟩⟩⟩ <;>
    · go_enter Tryd.func4, Tryd.ntmps4
      go_wp2_with (first
        | (go_at_call 8; refine q1.mono ?_; rintro e w1 ⟨u, rfl, _, b1⟩; clear q1; have B1 := (hx0.step b1).below; have q2 := HE.out w1 B1; clear HE)
        | (go_at_call 7; refine q2.mono ?_; rintro e w2 ⟨rfl, b2⟩; clear q2; have B2 := B1.trans (b2.mono B1.size)))
      go_ret
      exact ⟨rfl, B2⟩
  · have d1 : decide (n < 0) = false := decide_eq_false (by omega)
    have d2 : decide (200 < n) = false := decide_eq_false (by omega)
    have d3 : decide (r < 0) = false := decide_eq_false (by omega)
    have d4 : decide (4 < r) = false := decide_eq_false (by omega)
    have q1 := HR.out _ hx0.below
    by_cases he : trE p n = 0
    · obtain ⟨g1, g2, g3, g4⟩ := turns_run he (show 0 ≤ r ∧ r ≤ 4 by omega)
      have q1' : Calls Tryd.prog 9 #[.agg #[.slice ca p.code.length cc, .int .i64 p.ticks, .slice sa p.spans.length sc, .slice wa p.wires.length wc'], .int .i64 n] (w.alloc (.cells #[.slice ca p.code.length cc, .int .i64 p.ticks, .slice sa p.spans.length sc, .slice wa p.wires.length wc'] 34)) fun e w' => ∃ ua uc, e = .returned (.tuple #[.slice ua (trV p n).length uc, .nilIface]) ∧ Hid (Wrs w' (.slice ua (trV p n).length uc) (trV p n)) ∧ Below (w.alloc (.cells #[.slice ca p.code.length cc, .int .i64 p.ticks, .slice sa p.spans.length sc, .slice wa p.wires.length wc'] 34)).heap.size (w.alloc (.cells #[.slice ca p.code.length cc, .int .i64 p.ticks, .slice sa p.spans.length sc, .slice wa p.wires.length wc'] 34)) w' := by
        refine q1.mono ?_
        rintro e w' ⟨u, rfl, hu, hb⟩
        obtain ⟨ua, uc, rfl⟩ := hu.form
        exact ⟨ua, uc, by rw [he]; rfl, hu, hb⟩
      have HO2 : Hid (∀ ua uc W, Below w.heap.size w W → Wrs W (.slice ua (trV p n).length uc) (trV p n) → Calls Tryd.prog 8 #[.slice ua (trV p n).length uc, .int .i64 r] W fun e w' => ∃ va wc, e = .returned (.tuple #[.slice va (ofV (trV p n) r).length wc, .nilIface]) ∧ Below W.heap.size W w') := fun ua uc W hb hl => by
        refine (HO.out _ _ r W hb hl).mono ?_
        rintro e w' ⟨u, rfl, hu, hb⟩
        obtain ⟨va, wc, rfl⟩ := hu.form
        exact ⟨va, wc, by rw [g1]; rfl, hb⟩
      rw [g3, g4, show wErr 0 = .nilIface from rfl] at HT
      have e1 : (((trV p n).length : Int) == n) = true := by simpa using g2
      generalize (ofV (trV p n) r).length = m2 at HT HO2
      obtain ⟨m1, hm1⟩ : ∃ x, (trV p n).length = x := ⟨_, rfl⟩
      rw [hm1] at q1' HO2 e1
      clear q1 HR HO HE g1 g2 g3 g4 he hout hm1
      go_enter Tryd.func4, Tryd.ntmps4
      go_wp2_with (first
        | (go_at_call 9; refine q1'.mono ?_; rintro e w1 ⟨ua, uc, rfl, HU, b1⟩; clear q1'; have hx1 := hx0.step b1; have B1 := hx1.below; have q2 := HO2.out ua uc w1 B1 HU.out; clear HO2)
        | (go_at_call 8; refine q2.mono ?_; rintro e w2 ⟨va, vd, rfl, b2⟩; clear q2; have hx2 := hx1.step b2; have B2 := hx2.below; have k1 := hx2.c1; have k2 := hx2.c2; have q3 := HT.out w2 B2; clear HT)
        | (go_at_call 10; refine q3.mono ?_; rintro e w3 ⟨rfl, b3⟩; clear q3; have B3 := B2.trans (b3.mono B2.size)))
      go_ret
      exact ⟨by simp, B3⟩
    · rw [wErr_not he] at q1
      generalize trE p n = et at q1
      generalize trV p n = lv at q1
      clear HR HT HO HE he hout
      go_enter Tryd.func4, Tryd.ntmps4
      go_wp2_with (go_at_call 9; refine q1.mono ?_; rintro e w1 ⟨u, rfl, _, b1⟩; clear q1; have B1 := (hx0.step b1).below)
      go_ret
      exact ⟨rfl, B1⟩
end Go.Proofs.YtfconbblnmbnpahDoor
namespace Go.Proofs.YtfconbblnmbnpahDoor
open Go.RowKit

set_option maxRecDepth 100000 in
set_option maxHeartbeats 1000000 in
theorem hit_any (s : S3) (tb : Nat) (t : Int) (w : World) (ht : w.cell? ⟨tb, 0, none⟩ = some (.int .i64 t)) :
    Calls Tryd.prog 82 #[.agg #[.int .i64 s.1, .int .i64 s.2.1, .int .i64 s.2.2], .pointer (some ⟨tb, 0, none⟩)] w fun e w' => e = .returned (.bool (hits t s)) ∧ Below w.heap.size w w' := by
  have hlt := ltc ht
  have hn : tb ≠ w.heap.size := by omega
  obtain ⟨a, b, r⟩ := s
  simp only
  by_cases h1 : a ≤ t
  · by_cases h2 : t < b
    · have HF : Hid (hits t (a, b, r) = true) := by show _ = _; simp [hits, h1, h2]
      go_enter Tryd.func82, Tryd.ntmps82
      go_wp2
      go_ret
      exact ⟨retB HF.out.symm, (Below.refl _ _).alloc (Nat.le_refl _) _⟩
    · have h2' : decide (t < b) = false := by simpa using h2
      have HF : Hid (hits t (a, b, r) = false) := by show _ = _; simp [hits, h2]
      go_enter Tryd.func82, Tryd.ntmps82
      go_wp2
      go_ret
      exact ⟨retB HF.out.symm, (Below.refl _ _).alloc (Nat.le_refl _) _⟩
  · have h1' : decide (a ≤ t) = false := by simpa using h1
    have HF : Hid (hits t (a, b, r) = false) := by show _ = _; simp [hits, h1]
    go_enter Tryd.func82, Tryd.ntmps82
    go_wp2
    go_ret
    exact ⟨retB HF.out.symm, (Below.refl _ _).alloc (Nat.le_refl _) _⟩

theorem hidx_some {l : List S3} {t : Int} {k : Nat} (h : l.findIdx? (hits t) = some k) : hidx l t = k := by unfold hidx; rw [h]
theorem hidx_none {l : List S3} {t : Int} (h : l.findIdx? (hits t) = none) : hidx l t = -1 := by unfold hidx; rw [h]

set_option maxRecDepth 100000 in
set_option maxHeartbeats 2000000 in
theorem idxHold (l : List S3) (t : Int) (b off cap tb : Nat) (w : World) (ht : w.cell? ⟨tb, 0, none⟩ = some (.int .i64 t)) (hlen : l.length ≤ 12) (hlt : b < w.heap.size) (hc : SpC w b off l) :
    Calls Tryd.prog 40 #[.slice (some ⟨b, off, none⟩) l.length cap, .func (.func 82) #[] #[.pointer (some ⟨tb, 0, none⟩)]] w fun e w' =>
      e = .returned (.int .i64 (hidx l t)) ∧ Below w.heap.size w w' := by
  have hlt1 := ltc ht
  go_enter Tryd.func40, Tryd.ntmps40
  go_wp2
  go_loopw [8] (fun i wr => ∃ k : Nat, k ≤ l.length ∧ i = .int .i64 k ∧ (∀ (j : Nat) x, j < k → l[j]? = some x → hits t x = false) ∧ Below w.heap.size w wr) (fun i _ => l.length - (intOf i).toNat)
  case atStart => exact ⟨0, Nat.zero_le _, rfl, fun j x hj => by omega, Below.refl _ _⟩
  case round =>
    obtain ⟨k, hk, rfl, hall, hb⟩ := hrel
    have e1 : wr.cell? ⟨tb, 0, none⟩ = some (.int .i64 t) := (hb.cell (p := ⟨tb, 0, none⟩) hlt1).trans ht
    have Hall : Hid (∀ (j : Nat) x, j < k → l[j]? = some x → hits t x = false) := hall
    clear hall
    by_cases hkl : k < l.length
    · obtain ⟨o, ho⟩ : ∃ o, l[k]? = some o := ⟨l[k], List.getElem?_eq_getElem hkl⟩
      have HO : Hid (l[k]? = some o) := ho
      obtain ⟨c0, c1, c2⟩ := hc.below hb hlt k o ho
      clear ho
      have hon := hit_any o tb t wr e1
      clear e1
      cases hok : hits t o with
      | false =>
        have HN : Hid (hits t o = false) := hok
        rw [hok] at hon
        clear hok
        go_wp2_with (go_at_call 82; refine hon.mono ?_; rintro e w1 ⟨rfl, b1⟩; clear hon)
        go_roundw
        case rel =>
          refine ⟨k + 1, by omega, by go_num, fun j x hj hx => ?_, hb.trans (b1.mono hb.size)⟩
          by_cases hjk : j < k
          · exact Hall.out j x hjk hx
          · obtain rfl : j = k := by omega
            rw [HO.out] at hx
            obtain rfl := Option.some.inj hx
            exact HN.out
        case measure => simp [intOf]; omega
      | true =>
        have HF : Hid (l.findIdx? (hits t) = some k) := fidx_hit Hall.out HO.out hok
        rw [hok] at hon
        clear hok
        go_wp2_with (go_at_call 82; refine hon.mono ?_; rintro e w1 ⟨rfl, b1⟩; clear hon)
        go_ret
        exact ⟨retI (hidx_some HF.out).symm, hb.trans (b1.mono hb.size)⟩
    · have HF : Hid (l.findIdx? (hits t) = none) := fidx_miss (fun i x hi hx => Hall.out i x (by omega) hx)
      clear e1
      go_wp2
      go_ret
      exact ⟨retI (hidx_none HF.out).symm, hb⟩
set_option maxRecDepth 100000 in
set_option maxHeartbeats 2000000 in
theorem idxHold_nil (fn : Value) (a : Option Addr) (cap : Nat) (w : World) :
    Calls Tryd.prog 40 #[.slice a 0 cap, fn] w fun e w' => e = .returned (.int .i64 (-1)) ∧ Below w.heap.size w w' := by
  go_enter Tryd.func40, Tryd.ntmps40
  go_wp2
  refine wp_loop_rounds 1 ?_
  rw [rounds_succ]
  go_wp2
  go_ret
  exact ⟨rfl, Below.refl _ _⟩

set_option maxRecDepth 100000 in
set_option maxHeartbeats 2000000 in
theorem holder_nil (a : Option Addr) (cap : Nat) (t : Int) (w : World) :
    Calls Tryd.prog 65 #[.slice a 0 cap, .int .i64 t] w fun e w' => e = .returned (.int .i64 (-1)) ∧ Below w.heap.size w w' := by
  have hI := fun fn W => idxHold_nil fn a cap W
  go_enter Tryd.func65, Tryd.ntmps65
  go_wp2_with (go_at_call 40; refine (hI _ _).mono ?_; rintro e w1 ⟨rfl, b1⟩; clear hI)
  go_ret
  exact ⟨rfl, ((Below.refl _ _).alloc (Nat.le_refl _) _).trans (b1.mono (by simp))⟩
set_option maxRecDepth 100000 in
set_option maxHeartbeats 2000000 in
theorem holder_some (l : List S3) (b off cap : Nat) (t : Int) (w : World) (hlen : l.length ≤ 12) (hlt : b < w.heap.size) (hc : SpC w b off l) :
    Calls Tryd.prog 65 #[.slice (some ⟨b, off, none⟩) l.length cap, .int .i64 t] w fun e w' => e = .returned (.int .i64 (hold l t)) ∧ Below w.heap.size w w' := by
  have b0 : Below w.heap.size w (w.alloc (.cells #[.int .i64 t] 3)) := (Below.refl _ _).alloc (Nat.le_refl _) _
  have hI := idxHold l t b off cap w.heap.size (w.alloc (.cells #[.int .i64 t] 3)) (by simp) hlen (Nat.lt_of_lt_of_le hlt b0.size) (hc.below b0 hlt)
  cases hfi : l.findIdx? (hits t) with
  | none =>
    have HF : Hid (hold l t = -1) := hold_none hfi
    rw [hidx_none hfi] at hI
    clear hfi
    go_enter Tryd.func65, Tryd.ntmps65
    go_wp2_with (go_at_call 40; refine hI.mono ?_; rintro e w1 ⟨rfl, b1⟩; clear hI)
    go_ret
    exact ⟨retI HF.out.symm, b0.trans (b1.mono (by simp))⟩
  | some k =>
    have hk : k < l.length := by
      rw [List.findIdx?_eq_some_iff_getElem] at hfi
      exact hfi.1
    obtain ⟨o, ho⟩ : ∃ o, l[k]? = some o := ⟨l[k], List.getElem?_eq_getElem hk⟩
    have HF : Hid (hold l t = o.2.2) := hold_some hfi ho
    rw [hidx_some hfi] at hI
    obtain ⟨c0, c1, c2⟩ := hc.below b0 hlt k o ho
    have hlt' : b < (w.alloc (.cells #[.int .i64 t] 3)).heap.size := Nat.lt_of_lt_of_le hlt b0.size
    clear hfi ho
    go_enter Tryd.func65, Tryd.ntmps65
    go_wp2_with (go_at_call 40; refine hI.mono ?_; rintro e w1 ⟨rfl, b1⟩; clear hI; have d2 := (b1.cell (p := ⟨b, _, none⟩) hlt').trans c2; clear c0 c1 c2)
    go_ret
    exact ⟨retI HF.out.symm, b0.trans (b1.mono (by simp))⟩
theorem holder_any (l : List S3) (v : Value) (t : Int) (w : World) (hl : Sps w v l) (hlen : l.length ≤ 12) :
    Calls Tryd.prog 65 #[v, .int .i64 t] w fun e w' => e = .returned (.int .i64 (hold l t)) ∧ Below w.heap.size w w' := by
  rcases hl with ⟨rfl, ao, cap, rfl⟩ | ⟨b, off, cap, rfl, _, hlt, hc⟩
  · exact holder_nil ao cap t w
  · exact holder_some l b off cap t w hlen hlt hc
end Go.Proofs.YtfconbblnmbnpahDoor
