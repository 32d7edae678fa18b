/-
  RoomMath, WireMath, StaysMath, TextMath, ReadMath, CodeL, Base, ParseMath, RopMath, RLaid, PlanMath: joined into one text.
-/
import Derived.Test.YteoemcekkcnplaeDoorMath
import Derived.Lib.ItoaLen
import Derived.Lib.AtoiTie
import Derived.Test.YteoemcekkcnplaeDoorJd1
import Derived.Test.YteoemcekkcnplaeDoorRows
import Derived.WalkKit
import Derived.ProofKit
import Derived.LaidMore
import Derived.OpenShut
import Derived.Stop.Joined
import Derived.Stop.LaidErr
import Derived.Lib.LaidTab
namespace Go.Proofs.YteoemcekkcnplaeDoor

/-- A state of a room: where it goes on, its cells, whether it has failed. -/
structure St where
  p : Int
  c : Nat → Int
  f : Bool
/-- One cell changed. -/
def upd (c : Nat → Int) (a : Nat) (v : Int) : Nat → Int := fun i => if i = a then v else c i
theorem upd_same (c : Nat → Int) (a : Nat) (v : Int) : upd c a v a = v := by simp [upd]
theorem upd_other (c : Nat → Int) {a i : Nat} (v : Int) (h : i ≠ a) : upd c a v i = c i := by simp [upd, h]
/-- Whether all cells are numbers of a room. -/
def cellsOk (c : Nat → Int) : Bool := decide (0 ≤ c 0 ∧ c 0 ≤ 999 ∧ 0 ≤ c 1 ∧ c 1 ≤ 999 ∧ 0 ≤ c 2 ∧ c 2 ≤ 999 ∧ 0 ≤ c 3 ∧ c 3 ≤ 999 ∧ 0 ≤ c 4 ∧ c 4 ≤ 999 ∧ 0 ≤ c 5 ∧ c 5 ≤ 999)
theorem six {P : Nat → Prop} : (∀ i, i < 6 → P i) ↔ (P 0 ∧ P 1 ∧ P 2 ∧ P 3 ∧ P 4 ∧ P 5) := by
  refine ⟨fun h => ⟨h 0 (by omega), h 1 (by omega), h 2 (by omega), h 3 (by omega), h 4 (by omega), h 5 (by omega)⟩, fun ⟨h0, h1, h2, h3, h4, h5⟩ i hi => ?_⟩
  match i, hi with
  | 0, _ => exact h0
  | 1, _ => exact h1
  | 2, _ => exact h2
  | 3, _ => exact h3
  | 4, _ => exact h4
  | 5, _ => exact h5
  | i + 6, h => omega
theorem cellsOk_iff {c : Nat → Int} : cellsOk c = true ↔ ∀ i, i < 6 → 0 ≤ c i ∧ c i ≤ 999 := by
  rw [six]
  simp [cellsOk, and_assoc]
theorem cellsOk_no {c : Nat → Int} (h : ¬ ∀ i, i < 6 → 0 ≤ c i ∧ c i ≤ 999) : cellsOk c = false := by
  rw [← cellsOk_iff] at h
  simpa using h
/-- Whether a state is right in code of so many ops. -/
def stOk (s : St) (n : Nat) : Bool := decide (0 ≤ s.p ∧ s.p < n) && cellsOk s.c
theorem stOk_iff {s : St} {n : Nat} : stOk s n = true ↔ (0 ≤ s.p ∧ s.p < n ∧ ∀ i, i < 6 → 0 ≤ s.c i ∧ s.c i ≤ 999) := by
  simp only [stOk, Bool.and_eq_true, decide_eq_true_eq, cellsOk_iff, and_assoc]
/-- Check of code and a state: the error. -/
def rchk (l : List O3) (s : St) : Int := if (chk l).2 = 0 then (if stOk s l.length = true then 0 else 1) else (chk l).2
/-- Check, and what is there to be taken. -/
def gchk (l : List O3) (s : St) (got : Int) (is : Bool) : Int := if rchk l s = 0 then (if is = true ∧ (got < 0 ∨ 999 < got) then 1 else 0) else rchk l s
/-- The cells as an op leaves them. -/
def cellsF (o : O3) (c : Nat → Int) (got : Int) (is : Bool) : Nat → Int :=
  if o.1 = 1 then upd c o.2.1.toNat o.2.2 else if o.1 = 2 then upd c o.2.1.toNat (c o.2.2.toNat) else
  if o.1 = 3 then upd c o.2.1.toNat ((c o.2.1.toNat + c o.2.2.toNat) % 1000) else
  if o.1 = 4 then upd c o.2.1.toNat ((c o.2.1.toNat - c o.2.2.toNat + 1000) % 1000) else
  if o.1 = 5 then upd c o.2.1.toNat ((c o.2.1.toNat * c o.2.2.toNat) % 1000) else
  if o.1 = 9 then (if is = true then upd c o.2.1.toNat got else c) else c
/-- The next place. -/
def nextF (o : O3) (s : St) (n : Nat) (is : Bool) : Int :=
  if o.1 = 7 ∨ (o.1 = 6 ∧ s.c o.2.1.toNat = 0) then o.2.2 else if o.1 = 11 ∨ (o.1 = 9 ∧ is = false) then s.p else if s.p + 1 = n then 0 else s.p + 1
/-- What an op sends. -/
def sentF (o : O3) (c : Nat → Int) : Int := if o.1 = 8 then c o.2.1.toNat else -1
/-- A step of a state that is right. -/
def stepF (o : O3) (s : St) (n : Nat) (got : Int) (is : Bool) : St := if s.f = true then s else ⟨nextF o s n is, cellsF o s.c got is, decide (o.1 = 11)⟩
def sendF (o : O3) (s : St) : Int := if s.f = true then -1 else sentF o s.c
/-- What comes of a step. -/
def whatF (o : O3) (s : St) (is : Bool) : Int := if s.f = true then 5 else if o.1 = 8 then 1 else if o.1 = 9 then (if is = true then 2 else 3) else if o.1 = 11 then 4 else 0
end Go.Proofs.YteoemcekkcnplaeDoor
namespace Go.Proofs.YteoemcekkcnplaeDoor

/-- A number put into a list that rises, once; 'done': it is there. -/
def putGo (n : Int) : Bool → List Int → List Int
  | done, [] => if done then [] else [n]
  | done, x :: xs => if done then x :: putGo n true xs else if x = n then x :: putGo n true xs else if n < x then n :: x :: putGo n true xs else x :: putGo n false xs
theorem putGo_true (n : Int) : ∀ l, putGo n true l = l
  | [] => rfl
  | x :: xs => by simp [putGo, putGo_true n xs]
theorem putGo_nil (n : Int) : putGo n false [] = [n] := rfl
theorem putGo_eq {n x : Int} (h : x = n) (xs : List Int) : putGo n false (x :: xs) = x :: xs := by simp [putGo, h, putGo_true]
theorem putGo_lt {n x : Int} (h : n < x) (xs : List Int) : putGo n false (x :: xs) = n :: x :: xs := by
  have : x ≠ n := by omega
  simp [putGo, this, h, putGo_true]
theorem putGo_gt {n x : Int} (h : x < n) (xs : List Int) : putGo n false (x :: xs) = x :: putGo n false xs := by
  have h1 : x ≠ n := by omega
  have h2 : ¬ n < x := by omega
  simp [putGo, h1, h2]
theorem putGo_len (n : Int) : ∀ d l, (putGo n d l).length ≤ l.length + 1
  | d, [] => by unfold putGo; split <;> simp
  | d, x :: xs => by
    have h1 := putGo_len n true xs
    have h2 := putGo_len n false xs
    have h3 := congrArg List.length (putGo_true n xs)
    unfold putGo
    repeat' split
    all_goals simp only [List.length_cons]; omega
/-- The numbers from s on, k many, of which p says yes. -/
def pickN (p : Nat → Bool) (s k : Nat) : List Int := ((List.range' s k).filter p).map Int.ofNat
theorem pickN_zero (p : Nat → Bool) (s : Nat) : pickN p s 0 = [] := rfl
theorem pickN_succ (p : Nat → Bool) (s k : Nat) : pickN p s (k + 1) = if p s then (s : Int) :: pickN p (s + 1) k else pickN p (s + 1) k := by
  unfold pickN
  rw [List.range'_succ, List.filter_cons]
  split <;> simp
theorem pickN_congr {p q : Nat → Bool} {s k : Nat} (h : ∀ i, s ≤ i → i < s + k → p i = q i) : pickN p s k = pickN q s k := by
  unfold pickN
  congr 1
  apply List.filter_congr
  intro x hx
  rw [List.mem_range'_1] at hx
  exact h x hx.1 (by omega)
theorem pickN_gt (p : Nat → Bool) : ∀ (k s : Nat) (n : Int), n < s → putGo n false (pickN p s k) = n :: pickN p s k
  | 0, s, n, _ => rfl
  | k + 1, s, n, h => by
    rw [pickN_succ]
    split
    · exact putGo_lt h _
    · exact pickN_gt p k (s + 1) n (by omega)
theorem pickN_put (p : Nat → Bool) (m : Nat) : ∀ (k s : Nat), s ≤ m → m < s + k → putGo m false (pickN p s k) = pickN (fun i => p i || i == m) s k
  | 0, s, h1, h2 => by omega
  | k + 1, s, h1, h2 => by
    rw [pickN_succ, pickN_succ]
    by_cases hs : s = m
    · subst hs
      have hc : pickN (fun i => p i || i == s) (s + 1) k = pickN p (s + 1) k := pickN_congr fun i hi _ => by
        have : (i == s) = false := by simp; omega
        simp [this]
      simp only [beq_self_eq_true, Bool.or_true, if_true]
      rw [hc]
      split
      · exact putGo_eq rfl _
      · exact pickN_gt p k (s + 1) s (by omega)
    · have hsm : (s == m) = false := by simpa using hs
      simp only [hsm, Bool.or_false]
      have ih := pickN_put p m k (s + 1) (by omega) (by omega)
      split
      · rw [putGo_gt (by omega), ih]
      · exact ih
/-- An op of that What on that wire. -/
def onW (what : Int) (i : Nat) (o : O3) : Bool := decide (o.1 = what) && decide (o.2.2 = (i : Int))
def wiresB (what : Int) (l : List O3) : List Int := pickN (fun i => l.any (onW what i)) 0 12
def portStep (what : Int) (acc : List Int) (o : O3) : List Int := if o.1 = what then putGo o.2.2 false acc else acc
theorem wires_nil (what : Int) : wiresB what [] = [] := rfl
theorem wires_snoc (what : Int) (l : List O3) (o : O3) (h : o.1 = what → 0 ≤ o.2.2 ∧ o.2.2 < 12) : wiresB what (l ++ [o]) = portStep what (wiresB what l) o := by
  unfold portStep
  by_cases hw : o.1 = what
  · obtain ⟨h1, h2⟩ := h hw
    rw [if_pos hw]
    obtain ⟨m, hm⟩ : ∃ m : Nat, o.2.2 = m := ⟨o.2.2.toNat, by omega⟩
    rw [hm]
    unfold wiresB
    rw [pickN_put _ m 12 0 (by omega) (by omega)]
    apply pickN_congr
    intro i _ _
    have e : onW what i o = (i == m) := by
      rw [Bool.eq_iff_iff]
      simp [onW, hw, hm]
      omega
    rw [List.any_append]
    simp [e]
  · rw [if_neg hw]
    unfold wiresB
    apply pickN_congr
    intro i _ _
    have e : onW what i o = false := by simp [onW, hw]
    rw [List.any_append]
    simp [e]
theorem wires_len (what : Int) (l : List O3) : (wiresB what l).length ≤ 12 := by
  unfold wiresB pickN
  rw [List.length_map]
  have := List.length_filter_le (fun i => l.any (onW what i)) (List.range' 0 12)
  simpa using this
/-- The first i wires of them. -/
theorem pick_snoc (p : Nat → Bool) (k : Nat) : pickN p 0 (k + 1) = if p k then pickN p 0 k ++ [(k : Int)] else pickN p 0 k := by
  unfold pickN
  rw [List.range'_1_concat, List.filter_append, List.map_append]
  simp only [Nat.zero_add, List.filter_cons, List.filter_nil]
  split <;> simp
theorem pick_len (p : Nat → Bool) (k : Nat) : (pickN p 0 k).length ≤ k := by
  unfold pickN
  rw [List.length_map]
  have := List.length_filter_le p (List.range' 0 k)
  simpa using this
end Go.Proofs.YteoemcekkcnplaeDoor
namespace Go.Proofs.YteoemcekkcnplaeDoor

theorem upd_ok {c : Nat → Int} {a : Nat} {v : Int} (hc : ∀ i, i < 6 → 0 ≤ c i ∧ c i ≤ 999) (hv : 0 ≤ v ∧ v ≤ 999) : ∀ i, i < 6 → 0 ≤ upd c a v i ∧ upd c a v i ≤ 999 := by
  intro i hi
  unfold upd
  split
  · exact hv
  · exact hc i hi
theorem mod_ok (x : Int) : 0 ≤ x % 1000 ∧ x % 1000 ≤ 999 := by omega
theorem cellsF_ok {o : O3} {c : Nat → Int} {got : Int} {is : Bool} (hc : ∀ i, i < 6 → 0 ≤ c i ∧ c i ≤ 999) (h1 : o.1 = 1 → 0 ≤ o.2.2 ∧ o.2.2 ≤ 999) (h2 : o.1 = 2 → o.2.2.toNat < 6) (hg : is = true → 0 ≤ got ∧ got ≤ 999) : ∀ i, i < 6 → 0 ≤ cellsF o c got is i ∧ cellsF o c got is i ≤ 999 := by
  unfold cellsF
  split
  · rename_i h; exact upd_ok hc (h1 h)
  split
  · rename_i h; exact upd_ok hc (hc _ (h2 h))
  split
  · exact upd_ok hc (mod_ok _)
  split
  · exact upd_ok hc (mod_ok _)
  split
  · exact upd_ok hc (mod_ok _)
  split
  · split
    · rename_i h; exact upd_ok hc (hg h)
    · exact hc
  · exact hc
theorem cellsF_other {o : O3} {c : Nat → Int} {got : Int} {is : Bool} (i : Nat) (hi : i ≠ o.2.1.toNat) : cellsF o c got is i = c i := by
  unfold cellsF
  repeat' split
  all_goals first | rfl | exact upd_other _ _ hi
theorem cellsF_send {o : O3} {c : Nat → Int} {got : Int} {is : Bool} (h : o.1 = 8) : cellsF o c got is = c := by
  unfold cellsF
  rw [if_neg (by omega), if_neg (by omega), if_neg (by omega), if_neg (by omega), if_neg (by omega), if_neg (by omega)]
theorem cellsF_got {o : O3} {c : Nat → Int} {got got' : Int} {is is' : Bool} (h : o.1 ≠ 9) : cellsF o c got is = cellsF o c got' is' := by
  unfold cellsF
  simp only [if_neg h]
theorem nextF_got {o : O3} {s : St} {n : Nat} {is is' : Bool} (h : o.1 ≠ 9) : nextF o s n is = nextF o s n is' := by
  unfold nextF
  simp only [h, false_and]
theorem nextF_ok {o : O3} {s : St} {n : Nat} {is : Bool} (h0 : 0 ≤ s.p) (h1 : s.p < n) (hb : o.1 = 6 ∨ o.1 = 7 → 0 ≤ o.2.2 ∧ o.2.2 < n) : 0 ≤ nextF o s n is ∧ nextF o s n is < n := by
  unfold nextF
  split
  · rename_i h
    exact hb (by rcases h with h | h; exact Or.inr h; exact Or.inl h.1)
  split
  · exact ⟨h0, h1⟩
  split
  · omega
  · omega
theorem sentF_ok {o : O3} {c : Nat → Int} (hc : ∀ i, i < 6 → 0 ≤ c i ∧ c i ≤ 999) (ha : o.2.1.toNat < 6) : -1 ≤ sentF o c ∧ sentF o c ≤ 999 := by
  unfold sentF
  split
  · have := hc _ ha; omega
  · omega
theorem sentF_send {o : O3} {c : Nat → Int} (h : 0 ≤ sentF o c) : o.1 = 8 := by
  unfold sentF at h
  split at h
  · assumption
  · omega
end Go.Proofs.YteoemcekkcnplaeDoor
namespace Go.Proofs.YteoemcekkcnplaeDoor
def tail (zs : List Int) : List UInt8 := zs.flatMap fun z => 32 :: Lib.itoa z
def lineB (word : List UInt8) (zs : List Int) : List UInt8 := word ++ tail zs ++ [10]
theorem ba_size (l : List UInt8) : (ByteArray.mk l.toArray).size = l.length := by simp [ByteArray.size]
theorem tail_snoc (zs : List Int) (z : Int) : tail (zs ++ [z]) = tail zs ++ ([32] ++ Lib.itoa z) := by simp [tail]
theorem tail_le (zs : List Int) (h : ∀ z ∈ zs, -9223372036854775808 ≤ z ∧ z ≤ 9223372036854775807) : (tail zs).length ≤ 22 * zs.length := by
  induction zs with
  | nil => simp [tail]
  | cons z zs ih =>
    have h1 := ih (fun y hy => h y (by simp [hy]))
    have h2 := Lib.itoa_length_le z (h z (by simp)).1 (h z (by simp)).2
    simp only [tail, List.flatMap_cons, List.length_append, List.length_cons] at h1 ⊢
    omega
/-- The number that a word is. -/
def numB (l : List UInt8) : Option Int :=
  if l.length ≤ 4 then match Lib.atoi l with
    | some n => if 0 ≤ n ∧ Lib.itoa n = l then some n else none
    | none => none
  else none
theorem numB_long {l : List UInt8} (h : 4 < l.length) : numB l = none := by unfold numB; rw [if_neg (by omega)]
theorem numB_bad {l : List UInt8} (h : Lib.atoi l = none) : numB l = none := by unfold numB; rw [h]; split <;> rfl
theorem numB_neg {l : List UInt8} {n : Int} (h : Lib.atoi l = some n) (h0 : n < 0) : numB l = none := by
  unfold numB; rw [h]; split
  · simp only; rw [if_neg (by omega)]
  · rfl
theorem numB_other {l : List UInt8} {n : Int} (h : Lib.atoi l = some n) (h0 : Lib.itoa n ≠ l) : numB l = none := by
  unfold numB; rw [h]; split
  · simp only; rw [if_neg (fun hh => h0 hh.2)]
  · rfl
theorem numB_yes {l : List UInt8} {n : Int} (hl : l.length ≤ 4) (h : Lib.atoi l = some n) (h0 : 0 ≤ n) (h1 : Lib.itoa n = l) : numB l = some n := by
  unfold numB; rw [if_pos hl, h]; simp only; rw [if_pos ⟨h0, h1⟩]
theorem numB_some {l : List UInt8} {n : Int} (h : numB l = some n) : l.length ≤ 4 ∧ 0 ≤ n ∧ Lib.itoa n = l := by
  by_cases h1 : l.length ≤ 4
  · cases h2 : Lib.atoi l with
    | none => rw [numB_bad h2] at h; cases h
    | some m =>
      by_cases h3 : 0 ≤ m
      · by_cases h4 : Lib.itoa m = l
        · rw [numB_yes h1 h2 h3 h4] at h
          obtain rfl := Option.some.inj h
          exact ⟨h1, h3, h4⟩
        · rw [numB_other h2 h4] at h; cases h
      · rw [numB_neg h2 (by omega)] at h; cases h
  · rw [numB_long (by omega)] at h; cases h
/-- The line of an op. -/
def opB (o : O3) : List UInt8 := lineB (nameB o.1) (numsB o)
/-- The text of code. -/
def textB (l : List O3) : List UInt8 := l.flatMap opB
theorem textB_snoc (l : List O3) (o : O3) : textB (l ++ [o]) = textB l ++ opB o := by simp [textB]
theorem op_le {o : O3} (ha : 0 ≤ o.2.1 ∧ o.2.1 ≤ 5) (hb : 0 ≤ o.2.2 ∧ o.2.2 ≤ 999) : (opB o).length ≤ 50 := by
  have h1 := name_le o.1
  have h2 : (numsB o).length ≤ 2 := by
    unfold numsB
    repeat' split
    all_goals simp
  have h3 : ∀ z ∈ numsB o, -9223372036854775808 ≤ z ∧ z ≤ 9223372036854775807 := by
    intro z hz
    unfold numsB at hz
    split at hz
    · simp at hz; omega
    · split at hz
      · simp at hz
      · simp at hz; omega
  have h4 := tail_le (numsB o) h3
  simp only [opB, lineB, List.length_append, List.length_cons, List.length_nil]
  omega
theorem text_le {l : List O3} (h : ∀ o ∈ l, ok3 20 o = true ∨ (0 ≤ o.2.1 ∧ o.2.1 ≤ 5 ∧ 0 ≤ o.2.2 ∧ o.2.2 ≤ 999)) : (textB l).length ≤ 50 * l.length := by
  induction l with
  | nil => simp [textB]
  | cons o l ih =>
    have h1 := ih (fun y hy => h y (by simp [hy]))
    have h2 : (opB o).length ≤ 50 := by
      rcases h o (by simp) with h | h
      · have := ok3_small (by omega) h
        exact op_le ⟨by omega, by omega⟩ ⟨by omega, by omega⟩
      · exact op_le ⟨h.1, h.2.1⟩ h.2.2
    simp only [textB, List.flatMap_cons, List.length_append, List.length_cons] at h1 ⊢
    omega
/-- The bounds of an op's numbers as the table has them. -/
def pA (n : Int) : Int := bA n
def pB (n : Int) : Int := bB n 0
end Go.Proofs.YteoemcekkcnplaeDoor
namespace Go.Proofs.YteoemcekkcnplaeDoor

def numsOf : List (List UInt8) → Option (List Int)
  | [] => some []
  | p :: ps => match numB p with
    | none => none
    | some n => (numsOf ps).map (n :: ·)
/-- A line's body as a word, and numbers. -/
def bodyB (u : List UInt8) : Option (List UInt8 × List Int) := match cutB 32 u with
  | [] => none
  | p :: ps => (numsOf ps).map fun ns => (p, ns)
theorem numsOf_snoc (ps : List (List UInt8)) (ns : List Int) (p : List UInt8) (n : Int) (h : numsOf ps = some ns) (hn : numB p = some n) : numsOf (ps ++ [p]) = some (ns ++ [n]) := by
  induction ps generalizing ns with
  | nil => simp only [numsOf, Option.some.injEq] at h; subst h; simp [numsOf, hn]
  | cons q qs ih =>
    simp only [numsOf] at h
    cases hq : numB q with
    | none => rw [hq] at h; cases h
    | some m =>
      rw [hq] at h
      cases hqs : numsOf qs with
      | none => rw [hqs] at h; cases h
      | some ms =>
        rw [hqs] at h
        simp only [Option.map_some, Option.some.injEq] at h
        subst h
        simp [numsOf, hq, ih ms hqs]
theorem numsOf_bad {ps qs : List (List UInt8)} {p : List UInt8} (hn : numB p = none) : numsOf (ps ++ p :: qs) = none := by
  induction ps with
  | nil => simp [numsOf, hn]
  | cons q rs ih =>
    simp only [List.cons_append, numsOf]
    cases numB q with
    | none => rfl
    | some m => simp [ih]
theorem numsOf_len {ps : List (List UInt8)} {ns : List Int} (h : numsOf ps = some ns) : ns.length = ps.length := by
  induction ps generalizing ns with
  | nil => simp only [numsOf, Option.some.injEq] at h; subst h; rfl
  | cons q qs ih =>
    simp only [numsOf] at h
    cases hq : numB q with
    | none => rw [hq] at h; cases h
    | some m =>
      rw [hq] at h
      cases hqs : numsOf qs with
      | none => rw [hqs] at h; cases h
      | some ms =>
        rw [hqs] at h
        simp only [Option.map_some, Option.some.injEq] at h
        subst h
        simp [ih hqs]
theorem bodyB_no {u : List UInt8} (h : (32 : UInt8) ∉ u) : bodyB u = some (u, []) := by
  unfold bodyB cutB
  rw [cutGo_none 32 u [] h]
  rfl
theorem bodyB_at {a v : List UInt8} (h : (32 : UInt8) ∉ a) : bodyB (a ++ 32 :: v) = (numsOf (cutB 32 v)).map fun ns => (a, ns) := by
  unfold bodyB
  rw [show cutB 32 (a ++ 32 :: v) = a :: cutB 32 v from cutGo_at 32 a [] v h]

/-- A line as a word, and numbers. -/
def readB (l : List UInt8) : Option (List UInt8 × List Int) := if l.getLast? = some 10 then bodyB l.dropLast else none
theorem readB_snoc (u : List UInt8) : readB (u ++ [10]) = bodyB u := by simp [readB]
theorem readB_none {l : List UInt8} (h : ∀ u, l ≠ u ++ [10]) : readB l = none := by
  unfold readB
  rw [if_neg]
  intro e
  obtain ⟨u, hu⟩ := List.getLast?_eq_some_iff.1 e
  exact h u hu
/-- One number more, where its bound is not 1. -/
def stepN (p : Int) (ns : List Int) : Option (Int × List Int) := if p = 1 then some (0, ns) else match ns with | [] => none | x :: r => some (x, r)
theorem stepN_one (ns : List Int) : stepN 1 ns = some (0, ns) := rfl
theorem stepN_nil {p : Int} (h : p ≠ 1) : stepN p [] = none := by simp [stepN, h]
theorem stepN_cons {p : Int} (h : p ≠ 1) (x : Int) (r : List Int) : stepN p (x :: r) = some (x, r) := by simp [stepN, h]
def asm2 (p q k : Int) (ns : List Int) : Option O3 := match stepN p ns with
  | none => none
  | some (a, r) => match stepN q r with
    | none => none
    | some (b, r') => if r' = [] then some (k, a, b) else none
/-- An op of its What, and the numbers said. -/
def asm (k : Int) (ns : List Int) : Option O3 := if k = 0 then none else asm2 (pA k) (pB k) k ns
/-- A line as an op. -/
def opRead (l : List UInt8) : Option O3 := match readB l with
  | none => none
  | some (p, ns) => asm (namedB p) ns
end Go.Proofs.YteoemcekkcnplaeDoor
namespace Go.Proofs.YteoemcekkcnplaeDoor
open Go.RowKit

def sv (l : List UInt8) : Value := .string ⟨l.toArray⟩
theorem lt_of_cell {w : World} {b o : Nat} {v : Value} (h : w.cell? ⟨b, o, none⟩ = some v) : b < w.heap.size := by
  rcases Nat.lt_or_ge b w.heap.size with h' | h'
  · exact h'
  · simp [World.cell?, Array.getElem?_eq_none h'] at h
theorem bcell {W w1 : World} (hb : Below W.heap.size W w1) : (∀ b o, b < W.heap.size → w1.cell? ⟨b, o, none⟩ = W.cell? ⟨b, o, none⟩) ∧ (∀ b o, b < W.heap.size → w1.frozen? ⟨b, o, none⟩ = W.frozen? ⟨b, o, none⟩) :=
  ⟨fun b o h => hb.cell (p := ⟨b, o, none⟩) h, fun b o h => hb.frozen (p := ⟨b, o, none⟩) h⟩
theorem ret_bool {a b : Bool} (h : a = b) : Ending.returned (.bool a) = .returned (.bool b) := by rw [h]
theorem ret_int {k : IntKind} {a b : Int} (h : a = b) : Ending.returned (.int k a) = .returned (.int k b) := by rw [h]
/-- An op as a value. -/
def opV (n a b : Int) : Value := .agg #[.int .i64 n, .int .i64 a, .int .i64 b]
theorem grown_of_below {w w' : World} (h : Below w.heap.size w w') : w.grownBy w' none := ⟨h.os, h.tape, h.output, h.size, fun k hk _ => h.block k hk⟩
theorem own_all {w w' : World} {base : Nat} {e : TypeId} {size : Nat} {v : Value} {n : Nat} {xs : List Value} (h : w.ownsRow base e size v n xs) (hb : Below w.heap.size w w') : w'.ownsRow base e size v n xs :=
  h.kept (grown_of_below hb) (by cases v.ownBlock <;> simp)
/-- A slice of numbers that can be read in the world. -/
def Ints (w : World) (v : Value) (zs : List Int) : Prop :=
  (v = .slice none 0 0 ∧ zs = []) ∨ ∃ a cap, v = .slice (some a) zs.length cap ∧ a.block < w.heap.size ∧ ∀ (i : Nat) z, zs[i]? = some z → w.cell? (a.add i) = some (.int .i64 z)
/-- Code that can be read in the world. -/
def Ops (w : World) (v : Value) (l : List O3) : Prop :=
  (l = [] ∧ ∃ ao cap, v = .slice ao 0 cap) ∨
  ∃ b off cap, v = .slice (some ⟨b, off, none⟩) l.length cap ∧ b < w.heap.size ∧
    ∀ (i : Nat) o, l[i]? = some o → w.cell? ⟨b, off + i * 3, none⟩ = some (.int .i64 o.1) ∧ w.cell? ⟨b, off + i * 3 + 1, none⟩ = some (.int .i64 o.2.1) ∧ w.cell? ⟨b, off + i * 3 + 2, none⟩ = some (.int .i64 o.2.2)
theorem Ops.all {w w' : World} {v : Value} {l : List O3} (h : Ops w v l) (hb : Below w.heap.size w w') : Ops w' v l := by
  rcases h with h | ⟨b, off, cap, rfl, hlt, hc⟩
  · exact Or.inl h
  · exact Or.inr ⟨b, off, cap, rfl, Nat.lt_of_lt_of_le hlt hb.size, fun i o ho => by
      obtain ⟨h0, h1, h2⟩ := hc i o ho
      exact ⟨(hb.cell (p := ⟨b, _, none⟩) hlt).trans h0, (hb.cell (p := ⟨b, _, none⟩) hlt).trans h1, (hb.cell (p := ⟨b, _, none⟩) hlt).trans h2⟩⟩
theorem Ops.form {w : World} {v : Value} {l : List O3} (h : Ops w v l) : ∃ ao cap, v = .slice ao l.length cap := by
  rcases h with ⟨rfl, ao, cap, rfl⟩ | ⟨b, off, cap, rfl, _⟩
  · exact ⟨ao, cap, rfl⟩
  · exact ⟨_, cap, rfl⟩
/-- An error as a value. -/
def errV (e : Int) : Value := if e = 0 then .nilIface else .iface 71 (.int .i64 e)
theorem add_block (a : Addr) (k : Nat) : (a.add k).block = a.block := by unfold Addr.add; split <;> rfl
theorem infoIntC : (Tryd.prog.info? 3).map (fun i => (i.zero, i.size, i.bytes)) = some (some (.int .i64 0), 1, 8) := by kernel_rfl
theorem ints_of_own {w : World} {base : Nat} {v : Value} {zs : List Int} (h : w.ownsRow base 3 1 v zs.length (zs.map (Value.int .i64))) : Ints w v zs := by
  have hl := h.lt
  have hcs := @World.ownsRow.cells _ _ _ _ _ _ _ h
  rcases h.2 with ⟨rfl, h0⟩ | ⟨g, cap, cur, rfl, _⟩
  · exact Or.inl ⟨rfl, List.eq_nil_of_length_eq_zero h0⟩
  · refine Or.inr ⟨⟨g, 0, none⟩, cap, rfl, (hl g rfl).2, fun i z hz => ?_⟩
    exact hcs rfl i _ (by simp [hz])
theorem ints_all {w w' : World} {v : Value} {zs : List Int} (h : Ints w v zs) (hb : Below w.heap.size w w') : Ints w' v zs := by
  rcases h with h | ⟨a, cap, rfl, ha, hc⟩
  · exact Or.inl h
  · exact Or.inr ⟨a, cap, rfl, Nat.lt_of_lt_of_le ha hb.size, fun i z hz => (hb.cell (p := a.add i) (by rw [add_block]; exact ha)).trans (hc i z hz)⟩
/-- The box of an op that code.read lays at its head, in a later world. -/
theorem op_box {w w1 : World} {x y z : Value} (b1 : Below (w.heap.size + 1) (w.alloc (.cells #[x, y, z] 38)) w1) :
    w1.cell? ⟨w.heap.size, 0, none⟩ = some x ∧ w1.cell? ⟨w.heap.size, 1, none⟩ = some y ∧ w1.cell? ⟨w.heap.size, 2, none⟩ = some z ∧ w1.frozen? ⟨w.heap.size, 0, none⟩ = false ∧ w1.frozen? ⟨w.heap.size, 1, none⟩ = false ∧ w1.frozen? ⟨w.heap.size, 2, none⟩ = false ∧ Below w.heap.size w w1 :=
  ⟨(b1.cell (p := ⟨w.heap.size, 0, none⟩) (by simp)).trans (by simp), (b1.cell (p := ⟨w.heap.size, 1, none⟩) (by simp)).trans (by simp), (b1.cell (p := ⟨w.heap.size, 2, none⟩) (by simp)).trans (by simp),
   (b1.frozen (p := ⟨w.heap.size, 0, none⟩) (by simp)).trans (by simp), (b1.frozen (p := ⟨w.heap.size, 1, none⟩) (by simp)).trans (by simp), (b1.frozen (p := ⟨w.heap.size, 2, none⟩) (by simp)).trans (by simp),
   ((Below.refl _ w).alloc (Nat.le_refl _) _).trans (b1.mono (by omega))⟩
def opRes : Option O3 → Value
  | some o => .tuple #[.agg #[.int .i64 o.1, .int .i64 o.2.1, .int .i64 o.2.2], .bool true]
  | none => .tuple #[.agg #[.int .i64 0, .int .i64 0, .int .i64 0], .bool false]
def numV (l : List UInt8) : Value := .tuple #[.int .i64 ((numB l).getD 0), .bool (numB l).isSome]
theorem slice_form {w : World} {base t n k : Nat} {v : Value} {cs : List Value} (R : w.ownsRow base t k v n cs) : ∃ g n' cap, v = .slice g n' cap := by
  rcases R.2 with ⟨h, _⟩ | ⟨g, cap, cur, h, _⟩
  · exact ⟨_, _, _, h⟩
  · exact ⟨_, _, _, h⟩

end Go.Proofs.YteoemcekkcnplaeDoor
namespace Go.Proofs.YteoemcekkcnplaeDoor
open Go.RowKit

/-- The cells of the table of forms. -/
def formsCells : List Value := [
  .string ⟨#[]⟩, .int .i64 0, .int .i64 0,
  .string ⟨#[115, 101, 116]⟩, .int .i64 6, .int .i64 1000,
  .string ⟨#[99, 111, 112, 121]⟩, .int .i64 6, .int .i64 6,
  .string ⟨#[97, 100, 100]⟩, .int .i64 6, .int .i64 6,
  .string ⟨#[115, 117, 98]⟩, .int .i64 6, .int .i64 6,
  .string ⟨#[109, 117, 108]⟩, .int .i64 6, .int .i64 6,
  .string ⟨#[122, 101, 114, 111]⟩, .int .i64 6, .int .i64 0,
  .string ⟨#[106, 117, 109, 112]⟩, .int .i64 1, .int .i64 0,
  .string ⟨#[115, 101, 110, 100]⟩, .int .i64 6, .int .i64 12,
  .string ⟨#[116, 97, 107, 101]⟩, .int .i64 6, .int .i64 12,
  .string ⟨#[114, 101, 115, 116]⟩, .int .i64 1, .int .i64 1,
  .string ⟨#[102, 97, 105, 108]⟩, .int .i64 1, .int .i64 1]
/-- The table of forms lies in the world. -/
def Forms (w : World) : Prop := ∀ i v, formsCells[i]? = some v → w.cell? ⟨1, i, none⟩ = some v

theorem Forms.below {B : Nat} {w w' : World} (hf : Forms w) (hb : Below B w w') (hB : 1 < B) : Forms w' :=
  fun i v h => (hb.cell (p := ⟨_, i, none⟩) hB).trans (hf i v h)
theorem Forms.lt {w : World} (hf : Forms w) : 1 < w.heap.size := lt_of_cell (hf 0 _ rfl)
theorem Forms.all {w w' : World} (hf : Forms w) (hb : Below w.heap.size w w') : Forms w' := hf.below hb hf.lt
theorem Forms.alloc {w : World} (hf : Forms w) (o : Obj) : Forms (w.alloc o) := hf.all ((Below.refl _ _).alloc (Nat.le_refl _) _)
theorem Forms.drew {w : World} (hf : Forms w) : Forms w.drew := hf.all (Below.refl _ _).drew
end Go.Proofs.YteoemcekkcnplaeDoor
namespace Go.Proofs.YteoemcekkcnplaeDoor

def opsOf : List (List UInt8) → Option (List O3)
  | [] => some []
  | p :: ps => match opRead p with
    | none => none
    | some n => (opsOf ps).map (n :: ·)
theorem opsOf_snoc (ps : List (List UInt8)) (ns : List O3) (p : List UInt8) (n : O3) (h : opsOf ps = some ns) (hn : opRead p = some n) : opsOf (ps ++ [p]) = some (ns ++ [n]) := by
  induction ps generalizing ns with
  | nil => simp only [opsOf, Option.some.injEq] at h; subst h; simp [opsOf, hn]
  | cons q qs ih =>
    simp only [opsOf] at h
    cases hq : opRead q with
    | none => rw [hq] at h; cases h
    | some m =>
      rw [hq] at h
      cases hqs : opsOf qs with
      | none => rw [hqs] at h; cases h
      | some ms =>
        rw [hqs] at h
        simp only [Option.map_some, Option.some.injEq] at h
        subst h
        simp [opsOf, hq, ih ms hqs]
theorem opsOf_bad {ps qs : List (List UInt8)} {p : List UInt8} (hn : opRead p = none) : opsOf (ps ++ p :: qs) = none := by
  induction ps with
  | nil => simp [opsOf, hn]
  | cons q rs ih =>
    simp only [List.cons_append, opsOf]
    cases opRead q with
    | none => rfl
    | some m => simp [ih]
/-- A text as code, and the fault. -/
def parseB (t : List UInt8) : List O3 × Int := match opsOf (linesB t) with
  | none => ([], 2)
  | some os => if (chk os).2 = 0 then (os, 0) else ([], (chk os).2)
theorem chk_take (os : List O3) : (chk (os.take 21)).2 = (chk os).2 := by
  by_cases h : os.length ≤ 21
  · rw [List.take_of_length_le h]
  · rw [chk_long (l := os) (by omega), chk_long (l := os.take 21) (by simp; omega)]
theorem take_ok {os : List O3} (h : (chk os).2 = 0) : os.take 21 = os := by
  have := chk_zero h
  exact List.take_of_length_le (by omega)
theorem parseB_bad {t : List UInt8} (h : opsOf (linesB t) = none) : parseB t = ([], 2) := by unfold parseB; rw [h]
theorem parseB_ok {t : List UInt8} {os : List O3} (h : opsOf (linesB t) = some os) (h0 : (chk os).2 = 0) : parseB t = (os, 0) := by unfold parseB; rw [h]; simp only; rw [if_pos h0]
theorem parseB_err {t : List UInt8} {os : List O3} (h : opsOf (linesB t) = some os) (h0 : (chk os).2 ≠ 0) : parseB t = ([], (chk os).2) := by unfold parseB; rw [h]; simp only; rw [if_neg h0]
theorem take_snoc_lt {os : List O3} {o : O3} (h : os.length ≤ 20) : (os ++ [o]).take 21 = os.take 21 ++ [o] := by
  rw [List.take_of_length_le (by simp; omega), List.take_of_length_le (by omega)]
theorem take_snoc_ge {os : List O3} {o : O3} (h : 20 < os.length) : (os ++ [o]).take 21 = os.take 21 := by
  rw [List.take_append_of_le_length (by omega)]
/-- The cells of ops. -/
def cells3 (l : List O3) : List Value := l.flatMap fun o => [.int .i64 o.1, .int .i64 o.2.1, .int .i64 o.2.2]
theorem cells3_snoc (l : List O3) (o : O3) : cells3 (l ++ [o]) = cells3 l ++ [.int .i64 o.1, .int .i64 o.2.1, .int .i64 o.2.2] := by simp [cells3]
theorem cells3_at : ∀ (l : List O3) (i : Nat) (o : O3), l[i]? = some o → (cells3 l)[i * 3]? = some (.int .i64 o.1) ∧ (cells3 l)[i * 3 + 1]? = some (.int .i64 o.2.1) ∧ (cells3 l)[i * 3 + 2]? = some (.int .i64 o.2.2)
  | [], i, o, h => by simp at h
  | x :: l, 0, o, h => by simp at h; subst h; simp [cells3]
  | x :: l, i + 1, o, h => by
    have := cells3_at l i o (by simpa using h)
    have e : cells3 (x :: l) = .int .i64 x.1 :: .int .i64 x.2.1 :: .int .i64 x.2.2 :: cells3 l := by simp [cells3]
    rw [e, show (i + 1) * 3 = i * 3 + 3 by omega]
    simpa using this
end Go.Proofs.YteoemcekkcnplaeDoor
namespace Go.Proofs.YteoemcekkcnplaeDoor

/-- A line as an op, by its word and its other pieces. -/
def rop (p : List UInt8) (ps : List (List UInt8)) : Option O3 := match numsOf ps with
  | none => none
  | some ns => asm (namedB p) ns
theorem opRead_cut {u p : List UInt8} {ps : List (List UInt8)} (h : cutB 32 u = p :: ps) : opRead (u ++ [10]) = rop p ps := by
  unfold opRead rop
  rw [readB_snoc]
  unfold bodyB
  rw [h]
  simp only
  cases numsOf ps <;> rfl
theorem rop_nums {p : List UInt8} {ps : List (List UInt8)} (h : numsOf ps = none) : rop p ps = none := by unfold rop; rw [h]
theorem rop_hit {p : List UInt8} {ps : List (List UInt8)} {ns : List Int} (k : Nat) (h1 : 1 ≤ k) (h2 : k ≤ 11) (h : numsOf ps = some ns) (hp : p = nameB k) : rop p ps = asm k ns := by
  unfold rop
  rw [h]
  simp only
  rw [hp, named_hit k h1 h2]
theorem rop_end {p : List UInt8} {ps : List (List UInt8)} {ns : List Int} (hn : numsOf ps = some ns) (h : ∀ k : Nat, 1 ≤ k → k ≤ 11 → p = nameB k → asm k ns = none) : rop p ps = none := by
  rcases named_cases p with h0 | ⟨k, h1, h2, h3, h4⟩
  · unfold rop; rw [hn]; simp only; rw [h0]; rfl
  · rw [rop_hit k h1 h2 hn h4]
    exact h k h1 h2 h4
def asmJ : List Int → Option O3
  | [x] => some (7, 0, x)
  | _ => none
def asmR (k : Int) : List Int → Option O3
  | [] => some (k, 0, 0)
  | _ => none
def asmT (k : Int) : List Int → Option O3
  | [x, y] => some (k, x, y)
  | _ => none
theorem asmJ_no {ns : List Int} (h : ns.length ≠ 1) : asmJ ns = none := by
  match ns, h with
  | [], _ => rfl
  | [x], h => exact absurd rfl h
  | x :: y :: r, _ => rfl
theorem asmR_no {k : Int} {ns : List Int} (h : ns.length ≠ 0) : asmR k ns = none := by
  match ns, h with
  | [], h => exact absurd rfl h
  | x :: r, _ => rfl
theorem asmT_no {k : Int} {ns : List Int} (h : ns.length ≠ 2) : asmT k ns = none := by
  match ns, h with
  | [], _ => rfl
  | [x], _ => rfl
  | [x, y], h => exact absurd rfl h
  | x :: y :: z :: r, _ => rfl
theorem asm_jump (ns : List Int) : asm 7 ns = asmJ ns := by
  match ns with
  | [] => rfl
  | [x] => rfl
  | x :: y :: r => rfl
theorem asm_rest (k : Nat) (hk : k = 10 ∨ k = 11) (ns : List Int) : asm k ns = asmR k ns := by
  rcases hk with rfl | rfl
  all_goals
    match ns with
    | [] => rfl
    | x :: r => rfl
theorem asm_two (k : Nat) (h1 : 1 ≤ k) (h2 : k < 10) (h7 : k ≠ 7) (ns : List Int) : asm k ns = asmT k ns := by
  have h : k = 1 ∨ k = 2 ∨ k = 3 ∨ k = 4 ∨ k = 5 ∨ k = 6 ∨ k = 8 ∨ k = 9 := by omega
  clear h1 h2 h7
  rcases h with rfl | rfl | rfl | rfl | rfl | rfl | rfl | rfl
  all_goals
    match ns with
    | [] => rfl
    | [x] => rfl
    | [x, y] => rfl
    | x :: y :: z :: r => rfl

theorem two_of {ns : List Int} (h : ns.length = 2) : ∃ x y, ns = [x, y] := by
  match ns, h with
  | [x, y], _ => exact ⟨x, y, rfl⟩
/-- The last piece has no newline; the lines are the others, each with one, and it. -/
theorem cut_lines : ∀ (l cur : List UInt8), (10 : UInt8) ∉ cur → ∃ ps q, cutGo 10 cur l = ps ++ [q] ∧ (10 : UInt8) ∉ q ∧ linesGo cur l = ps.map (· ++ [10]) ++ (if q = [] then [] else [q])
  | [], cur, h => ⟨[], cur, rfl, h, by simp [linesGo]⟩
  | x :: xs, cur, h => by
    by_cases hx : x = 10
    · obtain ⟨ps, q, h1, h2, h3⟩ := cut_lines xs [] (by simp)
      refine ⟨cur :: ps, q, ?_, h2, ?_⟩
      · rw [cutGo_hit hx, h1]; rfl
      · rw [linesGo, if_pos hx, h3]; rfl
    · obtain ⟨ps, q, h1, h2, h3⟩ := cut_lines xs (cur ++ [x]) (by simp [h]; exact fun e => hx e.symm)
      refine ⟨ps, q, ?_, h2, ?_⟩
      · rw [cutGo_miss hx, h1]
      · rw [linesGo, if_neg hx, h3]
theorem opRead_open {q : List UInt8} (h : (10 : UInt8) ∉ q) : opRead q = none := by
  unfold opRead
  rw [readB_none fun u e => h (by rw [e]; simp)]
/-- A text cut at its newlines: what it is as code. -/
theorem parse_cut (t : List UInt8) : ∃ ps q, cutB 10 t = ps ++ [q] ∧ (q ≠ [] → parseB t = ([], 2)) ∧ (q = [] → linesB t = ps.map (· ++ [10])) := by
  obtain ⟨ps, q, h1, h2, h3⟩ := cut_lines t [] (by simp)
  refine ⟨ps, q, h1, fun hq => ?_, fun hq => ?_⟩
  · apply parseB_bad
    unfold linesB
    rw [h3, if_neg hq]
    exact opsOf_bad (opRead_open h2)
  · unfold linesB
    rw [h3, if_pos hq]
    simp
end Go.Proofs.YteoemcekkcnplaeDoor
namespace Go.Proofs.YteoemcekkcnplaeDoor
open Go.ChangeShapes Go.WideShapes Go.ChangeAt Go.WideElems Go.RowKit

theorem gForms : Tryd.prog.globalNamed "framekeep/code.forms" = some 1 := by kernel_rfl
theorem tForms : (Tryd.prog.globals[1]?).map (·.type) = some 151 := by kernel_rfl
theorem cStr : Tryd.prog.cellsOf 9 = 1 := by kernel_rfl
theorem cInt : Tryd.prog.cellsOf 3 = 1 := by kernel_rfl
theorem cTwo : Tryd.prog.cellsOf 148 = 2 := by kernel_rfl
theorem cForm : Tryd.prog.cellsOf 150 = 3 := by kernel_rfl

theorem len2 {α : Type} {l : List α} (h : l.length = 2) : ∃ a b, l = [a, b] := by
  match l, h with
  | [a, b], _ => exact ⟨a, b, rfl⟩
theorem len3 {α : Type} {l : List α} (h : l.length = 3) : ∃ a b c, l = [a, b, c] := by
  match l, h with
  | [a, b, c], _ => exact ⟨a, b, c, rfl⟩
theorem two_one {H : Type} {enc : TypeId × Value → H} {w : World} {base : Nat} {sp : Nat → Bool} {held : Bool} {fuel : Nat} {cs : List Value} {p q : Int} {pl : List MemPlace}
    (h : DataW.trod enc Tryd.prog w base sp held fuel 148 cs = some (.agg [.lit (.int .i64 p), .lit (.int .i64 q)], pl)) : cs = [.int .i64 p, .int .i64 q] := by
  have := Lib.cells_of_tab (k := .i64) (zs := [p, q]) Tryd.underlying148 Tryd.underlying3 cInt cTwo h
  simpa using this
theorem form_one {H : Type} {enc : TypeId × Value → H} {w : World} {base : Nat} {sp : Nat → Bool} {held : Bool} {fuel : Nat} {cs : List Value} {s : List UInt8} {p q : Int} {pl : List MemPlace}
    (h : DataW.trod enc Tryd.prog w base sp held fuel 150 cs = some (.agg [.lit (.string s), .agg [.lit (.int .i64 p), .lit (.int .i64 q)]], pl)) : cs = [.string ⟨s.toArray⟩, .int .i64 p, .int .i64 q] := by
  obtain ⟨xs, n, _, hx, hl, hxl, hf⟩ := DataW.trod_struct Tryd.underlying150 h
  rw [cForm] at hl
  have f0 : DataW.trod enc Tryd.prog w base sp held n 9 ((cs.drop 0).take (Tryd.prog.cellsOf 9)) = xs[0]? := hf 0 _ rfl
  have f1 : DataW.trod enc Tryd.prog w base sp held n 148 ((cs.drop 1).take (Tryd.prog.cellsOf 148)) = xs[1]? := hf 1 _ rfl
  rw [cStr] at f0
  rw [cTwo] at f1
  simp only [Prod.mk.injEq, DataW.agg.injEq] at hx
  obtain ⟨c0, c1, c2, rfl⟩ := len3 hl
  have hxl2 : xs.length = 2 := hxl
  obtain ⟨x0, x1, rfl⟩ := len2 hxl2
  simp only [List.map_cons, List.map_nil, List.cons.injEq, and_true] at hx
  simp at f0 f1
  obtain ⟨y0, z0⟩ := x0
  obtain ⟨y1, z1⟩ := x1
  simp only at hx
  rw [← hx.1.1] at f0
  rw [← hx.1.2] at f1
  obtain ⟨b, hb, hb2, _⟩ := DataW.trod_string Tryd.underlying9 f0
  simp only [Prod.mk.injEq, DataW.lit.injEq, Lit.string.injEq] at hb2
  have h2 := two_one f1
  simp only [List.cons.injEq, and_true] at hb h2
  obtain ⟨rfl, rfl⟩ := h2
  rw [hb, hb2.1]

/-- The rows of the table of forms. -/
def formRows : List (List UInt8 × Int × Int) := [([], 0, 0), ([115, 101, 116], 6, 1000), ([99, 111, 112, 121], 6, 6), ([97, 100, 100], 6, 6), ([115, 117, 98], 6, 6), ([109, 117, 108], 6, 6), ([122, 101, 114, 111], 6, 0), ([106, 117, 109, 112], 1, 0), ([115, 101, 110, 100], 6, 12), ([116, 97, 107, 101], 6, 12), ([114, 101, 115, 116], 1, 1), ([102, 97, 105, 108], 1, 1)]
def formD {H : Type} (r : List UInt8 × Int × Int) : DataW H := .agg [.lit (.string r.1), .agg [.lit (.int .i64 r.2.1), .lit (.int .i64 r.2.2)]]
theorem forms_of_head {W : World} {rest : List (String × DataW Unit)} (h : laidMet Tryd.prog (("framekeep/code.forms", .agg (formRows.map formD)) :: rest) W) : Forms W := by
  obtain ⟨ps, ⟨g', t', cs, fuel, p, q, hg', ht', hvar, hd, _, _⟩, _⟩ := h
  obtain rfl := Option.some.inj (gForms.symm.trans hg')
  obtain rfl := Option.some.inj (tForms.symm.trans ht')
  obtain ⟨xs, m, _, hx, _, hxl, hel⟩ := DataW.trod_array Tryd.underlying151 hd
  simp only [Prod.mk.injEq, DataW.agg.injEq] at hx
  have hrow : ∀ (i : Nat) r, formRows[i]? = some r → (cs.toList.drop (i * 3)).take 3 = [.string ⟨r.1.toArray⟩, .int .i64 r.2.1, .int .i64 r.2.2] := by
    intro i r hr
    have hi : i < 12 := by
      rcases Nat.lt_or_ge i 12 with h | h
      · exact h
      · rw [List.getElem?_eq_none (show formRows.length ≤ i from h)] at hr; cases hr
    have e1 := hel i hi
    rw [cForm] at e1
    have e2 : (xs.map (·.1))[i]? = some (formD r) := by rw [← hx.1]; simp [hr]
    simp only [List.getElem?_map, Option.map_eq_some_iff] at e2
    obtain ⟨⟨y, z⟩, hy, rfl⟩ := e2
    rw [hy] at e1
    exact form_one e1
  have hcell := fun i => World.var?_cell hg' hvar i
  have hat : ∀ (i j : Nat) r u, formRows[i]? = some r → j < 3 → ([.string ⟨r.1.toArray⟩, .int .i64 r.2.1, .int .i64 r.2.2] : List Value)[j]? = some u → W.cell? ⟨1, i * 3 + j, none⟩ = some u := by
    intro i j r u hr hj hu
    rw [← hrow i r hr] at hu
    rw [List.getElem?_take, if_pos hj, List.getElem?_drop] at hu
    rw [hcell]
    simpa using hu
  intro i v hv
  have hi : i < 36 := by
    rcases Nat.lt_or_ge i 36 with h | h
    · exact h
    · rw [List.getElem?_eq_none (show formsCells.length ≤ i from h)] at hv; cases hv
  have key : ∀ i, i < 36 → ∀ v, formsCells[i]? = some v → ∃ r, formRows[i / 3]? = some r ∧ ([.string ⟨r.1.toArray⟩, .int .i64 r.2.1, .int .i64 r.2.2] : List Value)[i % 3]? = some v := by
    intro i hi v hv
    match i, hi with
    | 0, _ | 1, _ | 2, _ | 3, _ | 4, _ | 5, _ | 6, _ | 7, _ | 8, _ | 9, _ | 10, _ | 11, _ | 12, _ | 13, _ | 14, _ | 15, _ | 16, _ | 17, _ | 18, _ | 19, _ | 20, _ | 21, _ | 22, _ | 23, _ | 24, _ | 25, _ | 26, _ | 27, _ | 28, _ | 29, _ | 30, _ | 31, _ | 32, _ | 33, _ | 34, _ | 35, _ => exact ⟨_, rfl, hv⟩
    | i + 36, h => omega
  obtain ⟨r, h1, h2⟩ := key i hi v hv
  have := hat (i / 3) (i % 3) r v h1 (Nat.mod_lt _ (by decide)) h2
  rwa [show i / 3 * 3 + i % 3 = i by omega] at this
end Go.Proofs.YteoemcekkcnplaeDoor
namespace Go.Proofs.YteoemcekkcnplaeDoor

/-- A plan: the code of each room, ticks, spans, wires. -/
structure PD where
  code : List (List O3)
  ticks : Int
  spans : List S3
  wires : List W4
def PD.none : PD := ⟨[], 0, [], []⟩
/-- The fault of the first code that is wrong. -/
def codesE : List (List O3) → Int
  | [] => 0
  | c :: r => if (chk c).2 = 0 then codesE r else (chk c).2
/-- Is a wire none of a room's own? -/
def portB (at' : W4 → Int) (ws : List W4) (i : Nat) (k : Int) : Bool := match ws[k.toNat]? with
  | none => true
  | some x => !decide (at' x = (i : Int))
def portsB (ws : List W4) (i : Nat) (c : List O3) : Bool := (wiresB 8 c).any (portB (·.1) ws i) || (wiresB 9 c).any (portB (·.2.1) ws i)
def portsAny (ws : List W4) : Nat → List (List O3) → Bool
  | _, [] => false
  | i, c :: r => portsB ws i c || portsAny ws (i + 1) r
/-- Does a span name a room that has no code? -/
def spanOut (n : Nat) (s : S3) : Bool := decide ((n : Int) ≤ s.2.2)
def wireOut (n : Nat) (x : W4) : Bool := decide ((n : Int) ≤ x.1) || decide ((n : Int) ≤ x.2.1)
/-- The fault of a plan. -/
def plchk (p : PD) : Int :=
  if 5 < p.code.length then 4 else if p.code.length = 0 then 5 else
  if (fchk p.ticks p.spans).2 ≠ 0 then (fchk p.ticks p.spans).2 else
  if (wschk p.wires).2 ≠ 0 then (wschk p.wires).2 else
  if p.spans.any (spanOut p.code.length) = true then 1 else
  if p.wires.any (wireOut p.code.length) = true then 1 else
  if codesE p.code ≠ 0 then codesE p.code else
  if portsAny p.wires 0 p.code = true then 3 else 0
theorem plchk_long {p : PD} (h : 5 < p.code.length) : plchk p = 4 := by rw [plchk, if_pos h]
theorem plchk_none {p : PD} (h : p.code.length = 0) : plchk p = 5 := by rw [plchk, if_neg (by omega), if_pos h]
theorem plchk_frame {p : PD} (h1 : p.code.length ≤ 5) (h2 : p.code.length ≠ 0) (h3 : (fchk p.ticks p.spans).2 ≠ 0) : plchk p = (fchk p.ticks p.spans).2 := by rw [plchk, if_neg (by omega), if_neg h2, if_pos h3]
theorem plchk_wires {p : PD} (h1 : p.code.length ≤ 5) (h2 : p.code.length ≠ 0) (h3 : (fchk p.ticks p.spans).2 = 0) (h4 : (wschk p.wires).2 ≠ 0) : plchk p = (wschk p.wires).2 := by
  rw [plchk, if_neg (by omega), if_neg h2, if_neg (by simpa using h3), if_pos h4]
theorem plchk_span {p : PD} (h1 : p.code.length ≤ 5) (h2 : p.code.length ≠ 0) (h3 : (fchk p.ticks p.spans).2 = 0) (h4 : (wschk p.wires).2 = 0) (h5 : p.spans.any (spanOut p.code.length) = true) : plchk p = 1 := by
  rw [plchk, if_neg (by omega), if_neg h2, if_neg (by simpa using h3), if_neg (by simpa using h4), if_pos h5]
theorem plchk_wire {p : PD} (h1 : p.code.length ≤ 5) (h2 : p.code.length ≠ 0) (h3 : (fchk p.ticks p.spans).2 = 0) (h4 : (wschk p.wires).2 = 0) (h5 : p.spans.any (spanOut p.code.length) = false) (h6 : p.wires.any (wireOut p.code.length) = true) : plchk p = 1 := by
  rw [plchk, if_neg (by omega), if_neg h2, if_neg (by simpa using h3), if_neg (by simpa using h4), if_neg (by rw [h5]; decide), if_pos h6]
theorem plchk_tail {p : PD} (h1 : p.code.length ≤ 5) (h2 : p.code.length ≠ 0) (h3 : (fchk p.ticks p.spans).2 = 0) (h4 : (wschk p.wires).2 = 0) (h5 : p.spans.any (spanOut p.code.length) = false) (h6 : p.wires.any (wireOut p.code.length) = false) :
    plchk p = if codesE p.code ≠ 0 then codesE p.code else if portsAny p.wires 0 p.code = true then 3 else 0 := by
  rw [plchk, if_neg (by omega), if_neg h2, if_neg (by simpa using h3), if_neg (by simpa using h4), if_neg (by rw [h5]; decide), if_neg (by rw [h6]; decide)]
theorem plchk_zero {p : PD} (h : plchk p = 0) : p.code.length ≤ 5 ∧ p.code.length ≠ 0 ∧ (fchk p.ticks p.spans).2 = 0 ∧ (wschk p.wires).2 = 0 ∧ p.spans.any (spanOut p.code.length) = false ∧ p.wires.any (wireOut p.code.length) = false ∧ codesE p.code = 0 ∧ portsAny p.wires 0 p.code = false := by
  unfold plchk at h
  split at h
  · simp at h
  · rename_i h1
    split at h
    · simp at h
    · rename_i h2
      split at h
      · contradiction
      · rename_i h3
        split at h
        · contradiction
        · rename_i h4
          split at h
          · simp at h
          · rename_i h5
            split at h
            · simp at h
            · rename_i h6
              split at h
              · contradiction
              · rename_i h7
                split at h
                · simp at h
                · rename_i h8
                  exact ⟨by omega, h2, by simpa using h3, by simpa using h4, by simpa using h5, by simpa using h6, by simpa using h7, by simpa using h8⟩
theorem codesE_zero : ∀ {l : List (List O3)}, codesE l = 0 → ∀ c ∈ l, (chk c).2 = 0
  | [], _, c, hc => by simp at hc
  | x :: l, h, c, hc => by
    rw [codesE] at h
    by_cases hx : (chk x).2 = 0
    · rw [if_pos hx] at h
      rcases List.mem_cons.1 hc with rfl | hc
      · exact hx
      · exact codesE_zero h c hc
    · rw [if_neg hx] at h
      exact absurd h hx
theorem codesE_skip : ∀ (l : List (List O3)) (k : Nat), (∀ (j : Nat) c, j < k → l[j]? = some c → (chk c).2 = 0) → codesE l = codesE (l.drop k)
  | l, 0, _ => by simp
  | [], k + 1, _ => by simp
  | x :: l, k + 1, h => by
    have hx : (chk x).2 = 0 := h 0 x (by omega) rfl
    rw [codesE, if_pos hx, List.drop_succ_cons]
    exact codesE_skip l k (fun j c hj hc => h (j + 1) c (by omega) (by simpa using hc))
theorem codesE_hit {l : List (List O3)} {k : Nat} {c : List O3} (h : ∀ (j : Nat) c, j < k → l[j]? = some c → (chk c).2 = 0) (hc : l[k]? = some c) (hb : (chk c).2 ≠ 0) : codesE l = (chk c).2 := by
  rw [codesE_skip l k h]
  obtain ⟨hk, rfl⟩ := List.getElem?_eq_some_iff.1 hc
  rw [List.drop_eq_getElem_cons hk, codesE, if_neg hb]
theorem codesE_ok {l : List (List O3)} (h : ∀ (j : Nat) c, j < l.length → l[j]? = some c → (chk c).2 = 0) : codesE l = 0 := by
  rw [codesE_skip l l.length h]
  simp [codesE]
theorem portsAny_skip (ws : List W4) : ∀ (l : List (List O3)) (k i : Nat), (∀ (j : Nat) c, j < k → l[j]? = some c → portsB ws (i + j) c = false) → portsAny ws i l = portsAny ws (i + k) (l.drop k)
  | l, 0, i, _ => by simp
  | [], k + 1, i, _ => by simp [portsAny]
  | x :: l, k + 1, i, h => by
    have hx : portsB ws i x = false := h 0 x (by omega) rfl
    rw [portsAny, hx, Bool.false_or, List.drop_succ_cons, show i + (k + 1) = i + 1 + k by omega]
    exact portsAny_skip ws l k (i + 1) (fun j c hj hc => by rw [show i + 1 + j = i + (j + 1) by omega]; exact h (j + 1) c (by omega) (by simpa using hc))
theorem portsAny_hit {ws : List W4} {l : List (List O3)} {k : Nat} {c : List O3} (h : ∀ (j : Nat) c, j < k → l[j]? = some c → portsB ws j c = false) (hc : l[k]? = some c) (hb : portsB ws k c = true) : portsAny ws 0 l = true := by
  rw [portsAny_skip ws l k 0 (fun j c hj hx => by rw [Nat.zero_add]; exact h j c hj hx), Nat.zero_add]
  obtain ⟨hk, rfl⟩ := List.getElem?_eq_some_iff.1 hc
  rw [List.drop_eq_getElem_cons hk, portsAny, hb, Bool.true_or]
theorem portsAny_ok {ws : List W4} {l : List (List O3)} (h : ∀ (j : Nat) c, j < l.length → l[j]? = some c → portsB ws j c = false) : portsAny ws 0 l = false := by
  rw [portsAny_skip ws l l.length 0 (fun j c hj hx => by rw [Nat.zero_add]; exact h j c hj hx)]
  simp [portsAny]

/-! Lines. -/
def wFrame : List UInt8 := [102, 114, 97, 109, 101]
def wSpan : List UInt8 := [115, 112, 97, 110]
def wWire : List UInt8 := [119, 105, 114, 101]
def wRoom : List UInt8 := [114, 111, 111, 109]
def frameL (n : Int) : List UInt8 := wFrame ++ tail [n]
def spanL (s : S3) : List UInt8 := wSpan ++ tail [s.1, s.2.1, s.2.2]
def wireL (x : W4) : List UInt8 := wWire ++ tail [x.1, x.2.1, x.2.2.1, x.2.2.2]
/-- An op's line, without its end. -/
def opL (o : O3) : List UInt8 := nameB o.1 ++ tail (numsB o)
def roomL (c : List O3) : List (List UInt8) := wRoom :: c.map opL
/-- The lines of a plan, without their ends. -/
def planL (p : PD) : List (List UInt8) := frameL p.ticks :: (p.spans.map spanL ++ (p.wires.map wireL ++ p.code.flatMap roomL))
/-- Lines with their ends, as a text. -/
def endL (ls : List (List UInt8)) : List UInt8 := ls.flatMap (· ++ [10])
def planB (p : PD) : List UInt8 := endL (planL p)

/-! A text as a plan. -/
def spanOf (u : List UInt8) : Option S3 := match bodyB u with
  | some (p, [a, b, c]) => if p = wSpan then some (a, b, c) else none
  | _ => none
def wireOf (u : List UInt8) : Option W4 := match bodyB u with
  | some (p, [a, b, c, d]) => if p = wWire then some (a, b, c, d) else none
  | _ => none
def frameOf (u : List UInt8) : Option Int := match bodyB u with
  | some (p, [a]) => if p = wFrame then some a else none
  | _ => none
def takeF {α : Type} (f : List UInt8 → Option α) : List (List UInt8) → List α × List (List UInt8)
  | [] => ([], [])
  | u :: r => match f u with
    | none => ([], u :: r)
    | some s => (s :: (takeF f r).1, (takeF f r).2)
/-- One op more, of the last room. -/
def onto (acc : List (List O3)) (o : O3) : Option (List (List O3)) := match acc.getLast? with
  | none => none
  | some c => some (acc.dropLast ++ [c ++ [o]])
def roomsOf : List (List O3) → List (List UInt8) → Option (List (List O3))
  | acc, [] => some acc
  | acc, u :: r => if u = wRoom then roomsOf (acc ++ [[]]) r else match opRead (u ++ [10]) with
    | none => none
    | some o => match onto acc o with
      | none => none
      | some a => roomsOf a r
/-- Lines, without their ends, as a plan. -/
def planOf : List (List UInt8) → Option PD
  | [] => none
  | u :: r => match frameOf u with
    | none => none
    | some n => match roomsOf [] (takeF wireOf (takeF spanOf r).2).2 with
      | none => none
      | some cs => some ⟨cs, n, (takeF spanOf r).1, (takeF wireOf (takeF spanOf r).2).1⟩
/-- What is read, and the fault. -/
def planR (o : Option PD) : PD × Int := match o with
  | none => (PD.none, 2)
  | some p => if plchk p = 0 then (p, 0) else (PD.none, plchk p)
theorem planR_none : planR none = (PD.none, 2) := rfl
theorem planR_ok {p : PD} (h : plchk p = 0) : planR (some p) = (p, 0) := by
  show (if plchk p = 0 then (p, (0 : Int)) else (PD.none, plchk p)) = _
  rw [if_pos h]
theorem planR_bad {p : PD} (h : plchk p ≠ 0) : planR (some p) = (PD.none, plchk p) := by
  show (if plchk p = 0 then (p, (0 : Int)) else (PD.none, plchk p)) = _
  rw [if_neg h]
/-- A text as a plan, and the fault. -/
def planP (t : List UInt8) : PD × Int := if (cutB 10 t).getLast? = some [] then planR (planOf (cutB 10 t).dropLast) else (PD.none, 2)
theorem planP_open {t : List UInt8} {ps : List (List UInt8)} {q : List UInt8} (h : cutB 10 t = ps ++ [q]) (hq : q ≠ []) : planP t = (PD.none, 2) := by
  rw [planP, h, if_neg (by simpa using hq)]
theorem planP_shut {t : List UInt8} {ps : List (List UInt8)} (h : cutB 10 t = ps ++ [[]]) : planP t = planR (planOf ps) := by
  rw [planP, h, if_pos (by simp), List.dropLast_concat]
theorem takeF_yes {α : Type} {f : List UInt8 → Option α} {u : List UInt8} {s : α} (h : f u = some s) (r : List (List UInt8)) : takeF f (u :: r) = (s :: (takeF f r).1, (takeF f r).2) := by rw [takeF, h]
theorem takeF_no {α : Type} {f : List UInt8 → Option α} {u : List UInt8} (h : f u = none) (r : List (List UInt8)) : takeF f (u :: r) = ([], u :: r) := by rw [takeF, h]
end Go.Proofs.YteoemcekkcnplaeDoor
