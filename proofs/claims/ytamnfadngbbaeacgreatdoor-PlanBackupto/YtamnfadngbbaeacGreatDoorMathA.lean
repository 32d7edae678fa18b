/-
  Math, TextMath, CutMath, ReadMath, SeqMath, ParseMath, RopMath, WireMath, FrameMath, WMath, FlowMath, PlanMath, NamesMath, BackMath, NumMath, PlanBackM: joined into one text.
-/
import Derived.Lib.ItoaLen
import Derived.Lib.AtoiTie
import Derived.Lib.Bytealg
import Derived.Test.YtamnfadngbbaeacGreatDoorRows
namespace Go.Proofs.YtamnfadngbbaeacGreatDoor

/-- What A is below, of an op n. -/
def bA (n : Int) : Int := if n = 7 ∨ n = 10 ∨ n = 11 then 1 else 6
/-- What B is below, of an op n in code of 'ops' ops. -/
def bB (n ops : Int) : Int := if n = 1 then 1000 else if n ≤ 5 then 6 else if n ≤ 7 then ops else if n ≤ 9 then 12 else 1
/-- Whether an op fits in code of so many ops. -/
def fitsB (n a b ops : Int) : Bool := decide (1 ≤ n ∧ n ≤ 11 ∧ 0 ≤ a ∧ a < bA n ∧ 0 ≤ b ∧ b < bB n ops)

theorem fitsB_lo {n a b ops : Int} (h : n < 1) : fitsB n a b ops = false := by simp [fitsB]; omega
theorem fitsB_hi {n a b ops : Int} (h : 11 < n) : fitsB n a b ops = false := by simp [fitsB]; omega
theorem fitsB_mk {n a b ops p q : Int} (h1 : 1 ≤ n) (h2 : n ≤ 11) (hp : bA n = p) (hq : bB n ops = q) : fitsB n a b ops = decide (0 ≤ a ∧ a < p ∧ 0 ≤ b ∧ b < q) := by
  simp [fitsB, h1, h2, hp, hq]

/-- An op: What, A, B. -/
abbrev O3 := Int × Int × Int
def ok3 (ops : Int) (o : O3) : Bool := fitsB o.1 o.2.1 o.2.2 ops
/-- Check: which op is wrong, and how. -/
def chk (l : List O3) : Int × Int :=
  if l.length = 0 then (0, 5) else if 20 < l.length then (0, 4) else
    match l.findIdx? (fun o => !ok3 l.length o) with
    | some i => (i, 1)
    | none => (0, 0)
theorem chk_nil : chk [] = (0, 5) := rfl
theorem chk_long {l : List O3} (h : 20 < l.length) : chk l = (0, 4) := by
  unfold chk
  rw [if_neg (by omega), if_pos h]
theorem chk_bad {l : List O3} {i : Nat} (h0 : l.length ≠ 0) (h1 : ¬ 20 < l.length) (h : l.findIdx? (fun o => !ok3 l.length o) = some i) : chk l = ((i : Int), 1) := by
  unfold chk
  rw [if_neg h0, if_neg h1, h]
theorem chk_good {l : List O3} (h0 : l.length ≠ 0) (h1 : ¬ 20 < l.length) (h : l.findIdx? (fun o => !ok3 l.length o) = none) : chk l = (0, 0) := by
  unfold chk
  rw [if_neg h0, if_neg h1, h]
theorem chk_zero {l : List O3} (h : (chk l).2 = 0) : l.length ≠ 0 ∧ l.length ≤ 20 ∧ ∀ o ∈ l, ok3 l.length o = true := by
  unfold chk at h
  split at h
  · simp at h
  · split at h
    · simp at h
    · rename_i h0 h1
      cases hf : l.findIdx? (fun o => !ok3 l.length o) with
      | some i => rw [hf] at h; simp at h
      | none =>
        rw [List.findIdx?_eq_none_iff] at hf
        exact ⟨h0, by omega, fun o ho => by simpa using hf o ho⟩
theorem chk_fst {l : List O3} (h : (chk l).2 = 0) : chk l = (0, 0) := by
  obtain ⟨h0, h1, h2⟩ := chk_zero h
  exact chk_good h0 (by omega) (by rw [List.findIdx?_eq_none_iff]; intro o ho; simp [h2 o ho])
theorem chk_zero_iff {l : List O3} : (chk l).2 = 0 ↔ (l.length ≠ 0 ∧ l.length ≤ 20 ∧ ∀ o ∈ l, ok3 l.length o = true) := by
  refine ⟨chk_zero, fun ⟨h0, h1, h2⟩ => ?_⟩
  rw [chk_good h0 (by omega) (by rw [List.findIdx?_eq_none_iff]; intro o ho; simp [h2 o ho])]
theorem findIdx_hit {α : Type} {p : α → Bool} : ∀ {l : List α} {k : Nat} {o : α}, (∀ i x, i < k → l[i]? = some x → p x = false) → l[k]? = some o → p o = true → l.findIdx? p = some k
  | [], k, o, _, h, _ => by simp at h
  | x :: l, 0, o, _, h, hp => by simp at h; subst h; simp [List.findIdx?_cons, hp]
  | x :: l, k + 1, o, h0, h, hp => by
    have hx : p x = false := h0 0 x (by omega) rfl
    have := findIdx_hit (l := l) (k := k) (o := o) (fun i y hi hy => h0 (i + 1) y (by omega) (by simpa using hy)) (by simpa using h) hp
    simp [List.findIdx?_cons, hx, this]
theorem findIdx_miss {α : Type} {p : α → Bool} {l : List α} (h : ∀ (i : Nat) x, i < l.length → l[i]? = some x → p x = false) : l.findIdx? p = none := by
  rw [List.findIdx?_eq_none_iff]
  intro x hx
  obtain ⟨i, hi, rfl⟩ := List.getElem_of_mem hx
  exact h i _ hi (by simp [hi])

/-- The name of an op. -/
def nameB (n : Int) : List UInt8 :=
  if n = 1 then [115, 101, 116] else if n = 2 then [99, 111, 112, 121] else if n = 3 then [97, 100, 100] else if n = 4 then [115, 117, 98] else if n = 5 then [109, 117, 108] else
  if n = 6 then [122, 101, 114, 111] else if n = 7 then [106, 117, 109, 112] else if n = 8 then [115, 101, 110, 100] else if n = 9 then [116, 97, 107, 101] else if n = 10 then [114, 101, 115, 116] else if n = 11 then [102, 97, 105, 108] else []
/-- The numbers that an op's line says. -/
def numsB (o : O3) : List Int := if o.1 = 7 then [o.2.2] else if o.1 = 10 ∨ o.1 = 11 then [] else [o.2.1, o.2.2]
theorem ok3_range {ops : Int} {o : O3} (h : ok3 ops o = true) : 1 ≤ o.1 ∧ o.1 ≤ 11 ∧ 0 ≤ o.2.1 ∧ o.2.1 < bA o.1 ∧ 0 ≤ o.2.2 ∧ o.2.2 < bB o.1 ops := by
  simpa [ok3, fitsB] using h
theorem bA_le (n : Int) : 1 ≤ bA n ∧ bA n ≤ 6 := by unfold bA; split <;> omega
theorem bB_le (n ops : Int) : bB n ops ≤ max 1000 ops := by unfold bB; split <;> (try split) <;> (try split) <;> (try split) <;> omega
theorem ok3_small {ops : Int} {o : O3} (hops : ops ≤ 1000) (h : ok3 ops o = true) : 1 ≤ o.1 ∧ o.1 ≤ 11 ∧ 0 ≤ o.2.1 ∧ o.2.1 ≤ 5 ∧ 0 ≤ o.2.2 ∧ o.2.2 ≤ 999 := by
  have h1 := ok3_range h
  have h2 := bA_le o.1
  have h3 := bB_le o.1 ops
  omega
theorem name_le (n : Int) : (nameB n).length ≤ 4 := by
  unfold nameB
  repeat' split
  all_goals simp

/-- Which What has a name; 0, if none has. -/
def namedB (l : List UInt8) : Int :=
  if l = nameB 1 then 1 else if l = nameB 2 then 2 else if l = nameB 3 then 3 else if l = nameB 4 then 4 else if l = nameB 5 then 5 else
  if l = nameB 6 then 6 else if l = nameB 7 then 7 else if l = nameB 8 then 8 else if l = nameB 9 then 9 else if l = nameB 10 then 10 else if l = nameB 11 then 11 else 0
theorem named_hit (k : Nat) (h1 : 1 ≤ k) (h2 : k ≤ 11) : namedB (nameB k) = k := by
  have h : k = 1 ∨ k = 2 ∨ k = 3 ∨ k = 4 ∨ k = 5 ∨ k = 6 ∨ k = 7 ∨ k = 8 ∨ k = 9 ∨ k = 10 ∨ k = 11 := by omega
  rcases h with rfl | rfl | rfl | rfl | rfl | rfl | rfl | rfl | rfl | rfl | rfl <;> decide
theorem named_miss {l : List UInt8} (h : ∀ k : Nat, 1 ≤ k → k ≤ 11 → l ≠ nameB k) : namedB l = 0 := by
  unfold namedB
  rw [if_neg (show l ≠ nameB 1 from h 1 (by omega) (by omega)), if_neg (show l ≠ nameB 2 from h 2 (by omega) (by omega)), if_neg (show l ≠ nameB 3 from h 3 (by omega) (by omega)), if_neg (show l ≠ nameB 4 from h 4 (by omega) (by omega)), if_neg (show l ≠ nameB 5 from h 5 (by omega) (by omega)), if_neg (show l ≠ nameB 6 from h 6 (by omega) (by omega)), if_neg (show l ≠ nameB 7 from h 7 (by omega) (by omega)), if_neg (show l ≠ nameB 8 from h 8 (by omega) (by omega)), if_neg (show l ≠ nameB 9 from h 9 (by omega) (by omega)), if_neg (show l ≠ nameB 10 from h 10 (by omega) (by omega)), if_neg (show l ≠ nameB 11 from h 11 (by omega) (by omega))]
theorem named_cases (l : List UInt8) : namedB l = 0 ∨ ∃ k : Nat, 1 ≤ k ∧ k ≤ 11 ∧ namedB l = k ∧ l = nameB k := by
  by_cases h : ∃ k : Nat, 1 ≤ k ∧ k ≤ 11 ∧ l = nameB k
  · obtain ⟨k, h1, h2, rfl⟩ := h
    exact Or.inr ⟨k, h1, h2, named_hit k h1 h2, rfl⟩
  · exact Or.inl (named_miss fun k h1 h2 e => h ⟨k, h1, h2, e⟩)

end Go.Proofs.YtamnfadngbbaeacGreatDoor
namespace Go.Proofs.YtamnfadngbbaeacGreatDoor
def tail (zs : List Int) : List UInt8 := zs.flatMap fun z => 32 :: Lib.itoa z
def lineB (word : List UInt8) (zs : List Int) : List UInt8 := word ++ tail zs ++ [10]
theorem ba_size (l : List UInt8) : (ByteArray.mk l.toArray).size = l.length := by simp [ByteArray.size]
theorem tail_snoc (zs : List Int) (z : Int) : tail (zs ++ [z]) = tail zs ++ ([32] ++ Lib.itoa z) := by simp [tail]
theorem tail_le (zs : List Int) (h : ∀ z ∈ zs, -9223372036854775808 ≤ z ∧ z ≤ 9223372036854775807) : (tail zs).length ≤ 22 * zs.length := by
  induction zs with
  | nil => simp [tail]
  | cons z zs ih =>
    have h1 := ih (fun y hy => h y (by simp [hy]))
    have h2 := Lib.itoa_length_le z (h z (by simp)).1 (h z (by simp)).2
    simp only [tail, List.flatMap_cons, List.length_append, List.length_cons] at h1 ⊢
    omega
/-- The number that a word is. -/
def numB (l : List UInt8) : Option Int :=
  if l.length ≤ 4 then match Lib.atoi l with
    | some n => if 0 ≤ n ∧ Lib.itoa n = l then some n else none
    | none => none
  else none
theorem numB_long {l : List UInt8} (h : 4 < l.length) : numB l = none := by unfold numB; rw [if_neg (by omega)]
theorem numB_bad {l : List UInt8} (h : Lib.atoi l = none) : numB l = none := by unfold numB; rw [h]; split <;> rfl
theorem numB_neg {l : List UInt8} {n : Int} (h : Lib.atoi l = some n) (h0 : n < 0) : numB l = none := by
  unfold numB; rw [h]; split
  · simp only; rw [if_neg (by omega)]
  · rfl
theorem numB_other {l : List UInt8} {n : Int} (h : Lib.atoi l = some n) (h0 : Lib.itoa n ≠ l) : numB l = none := by
  unfold numB; rw [h]; split
  · simp only; rw [if_neg (fun hh => h0 hh.2)]
  · rfl
theorem numB_yes {l : List UInt8} {n : Int} (hl : l.length ≤ 4) (h : Lib.atoi l = some n) (h0 : 0 ≤ n) (h1 : Lib.itoa n = l) : numB l = some n := by
  unfold numB; rw [if_pos hl, h]; simp only; rw [if_pos ⟨h0, h1⟩]
theorem numB_some {l : List UInt8} {n : Int} (h : numB l = some n) : l.length ≤ 4 ∧ 0 ≤ n ∧ Lib.itoa n = l := by
  by_cases h1 : l.length ≤ 4
  · cases h2 : Lib.atoi l with
    | none => rw [numB_bad h2] at h; cases h
    | some m =>
      by_cases h3 : 0 ≤ m
      · by_cases h4 : Lib.itoa m = l
        · rw [numB_yes h1 h2 h3 h4] at h
          obtain rfl := Option.some.inj h
          exact ⟨h1, h3, h4⟩
        · rw [numB_other h2 h4] at h; cases h
      · rw [numB_neg h2 (by omega)] at h; cases h
  · rw [numB_long (by omega)] at h; cases h
/-- The line of an op. -/
def opB (o : O3) : List UInt8 := lineB (nameB o.1) (numsB o)
/-- The text of code. -/
def textB (l : List O3) : List UInt8 := l.flatMap opB
theorem textB_snoc (l : List O3) (o : O3) : textB (l ++ [o]) = textB l ++ opB o := by simp [textB]
theorem op_le {o : O3} (ha : 0 ≤ o.2.1 ∧ o.2.1 ≤ 5) (hb : 0 ≤ o.2.2 ∧ o.2.2 ≤ 999) : (opB o).length ≤ 50 := by
  have h1 := name_le o.1
  have h2 : (numsB o).length ≤ 2 := by
    unfold numsB
    repeat' split
    all_goals simp
  have h3 : ∀ z ∈ numsB o, -9223372036854775808 ≤ z ∧ z ≤ 9223372036854775807 := by
    intro z hz
    unfold numsB at hz
    split at hz
    · simp at hz; omega
    · split at hz
      · simp at hz
      · simp at hz; omega
  have h4 := tail_le (numsB o) h3
  simp only [opB, lineB, List.length_append, List.length_cons, List.length_nil]
  omega
theorem text_le {l : List O3} (h : ∀ o ∈ l, ok3 20 o = true ∨ (0 ≤ o.2.1 ∧ o.2.1 ≤ 5 ∧ 0 ≤ o.2.2 ∧ o.2.2 ≤ 999)) : (textB l).length ≤ 50 * l.length := by
  induction l with
  | nil => simp [textB]
  | cons o l ih =>
    have h1 := ih (fun y hy => h y (by simp [hy]))
    have h2 : (opB o).length ≤ 50 := by
      rcases h o (by simp) with h | h
      · have := ok3_small (by omega) h
        exact op_le ⟨by omega, by omega⟩ ⟨by omega, by omega⟩
      · exact op_le ⟨h.1, h.2.1⟩ h.2.2
    simp only [textB, List.flatMap_cons, List.length_append, List.length_cons] at h1 ⊢
    omega
/-- The bounds of an op's numbers as the table has them. -/
def pA (n : Int) : Int := bA n
def pB (n : Int) : Int := bB n 0
end Go.Proofs.YtamnfadngbbaeacGreatDoor
namespace Go.Proofs.YtamnfadngbbaeacGreatDoor

/-- What is left to cut, 'cur' the piece begun. -/
def cutGo (c : UInt8) : List UInt8 → List UInt8 → List (List UInt8)
  | cur, [] => [cur]
  | cur, x :: xs => if x = c then cur :: cutGo c [] xs else cutGo c (cur ++ [x]) xs
def cutB (c : UInt8) (l : List UInt8) : List (List UInt8) := cutGo c [] l
theorem cutGo_hit {c x : UInt8} (h : x = c) (cur xs : List UInt8) : cutGo c cur (x :: xs) = cur :: cutGo c [] xs := by simp [cutGo, h]
theorem cutGo_miss {c x : UInt8} (h : x ≠ c) (cur xs : List UInt8) : cutGo c cur (x :: xs) = cutGo c (cur ++ [x]) xs := by simp [cutGo, h]
theorem cutGo_len (c : UInt8) : ∀ (l cur : List UInt8), 1 ≤ (cutGo c cur l).length ∧ (cutGo c cur l).length ≤ l.length + 1
  | [], cur => by simp [cutGo]
  | x :: xs, cur => by
    by_cases h : x = c
    · rw [cutGo_hit h]; have := cutGo_len c xs []; simp; omega
    · rw [cutGo_miss h]; have := cutGo_len c xs (cur ++ [x]); simp; omega
theorem cutGo_app (c : UInt8) : ∀ (l cur m : List UInt8), c ∉ l → cutGo c cur (l ++ m) = cutGo c (cur ++ l) m
  | [], cur, m, _ => by simp
  | x :: xs, cur, m, h => by
    have hx : x ≠ c := fun e => h (by simp [e])
    have hxs : c ∉ xs := fun e => h (by simp [e])
    rw [List.cons_append, cutGo_miss hx, cutGo_app c xs _ m hxs]; simp
/-- What is cut joins to what was. -/
theorem cutGo_none (c : UInt8) (l cur : List UInt8) (h : c ∉ l) : cutGo c cur l = [cur ++ l] := by
  have := cutGo_app c l cur [] h
  simpa [cutGo] using this
theorem cutGo_at (c : UInt8) (l cur m : List UInt8) (h : c ∉ l) : cutGo c cur (l ++ c :: m) = (cur ++ l) :: cutB c m := by
  rw [cutGo_app c l cur _ h, cutGo_hit rfl]; rfl

theorem drop_step {l : List UInt8} {k : Nat} (h : k < l.length) : l.drop k = l[k] :: l.drop (k + 1) := List.drop_eq_getElem_cons h
theorem piece_step {l : List UInt8} {k f : Nat} (h : k < l.length) (hf : f ≤ k) : (l.take (k + 1)).drop f = (l.take k).drop f ++ [l[k]] := by
  rw [List.take_succ_eq_append_getElem h, List.drop_append_of_le_length (by simp; omega)]
end Go.Proofs.YtamnfadngbbaeacGreatDoor
namespace Go.Proofs.YtamnfadngbbaeacGreatDoor

def numsOf : List (List UInt8) → Option (List Int)
  | [] => some []
  | p :: ps => match numB p with
    | none => none
    | some n => (numsOf ps).map (n :: ·)
/-- A line's body as a word, and numbers. -/
def bodyB (u : List UInt8) : Option (List UInt8 × List Int) := match cutB 32 u with
  | [] => none
  | p :: ps => (numsOf ps).map fun ns => (p, ns)
theorem numsOf_snoc (ps : List (List UInt8)) (ns : List Int) (p : List UInt8) (n : Int) (h : numsOf ps = some ns) (hn : numB p = some n) : numsOf (ps ++ [p]) = some (ns ++ [n]) := by
  induction ps generalizing ns with
  | nil => simp only [numsOf, Option.some.injEq] at h; subst h; simp [numsOf, hn]
  | cons q qs ih =>
    simp only [numsOf] at h
    cases hq : numB q with
    | none => rw [hq] at h; cases h
    | some m =>
      rw [hq] at h
      cases hqs : numsOf qs with
      | none => rw [hqs] at h; cases h
      | some ms =>
        rw [hqs] at h
        simp only [Option.map_some, Option.some.injEq] at h
        subst h
        simp [numsOf, hq, ih ms hqs]
theorem numsOf_bad {ps qs : List (List UInt8)} {p : List UInt8} (hn : numB p = none) : numsOf (ps ++ p :: qs) = none := by
  induction ps with
  | nil => simp [numsOf, hn]
  | cons q rs ih =>
    simp only [List.cons_append, numsOf]
    cases numB q with
    | none => rfl
    | some m => simp [ih]
theorem numsOf_len {ps : List (List UInt8)} {ns : List Int} (h : numsOf ps = some ns) : ns.length = ps.length := by
  induction ps generalizing ns with
  | nil => simp only [numsOf, Option.some.injEq] at h; subst h; rfl
  | cons q qs ih =>
    simp only [numsOf] at h
    cases hq : numB q with
    | none => rw [hq] at h; cases h
    | some m =>
      rw [hq] at h
      cases hqs : numsOf qs with
      | none => rw [hqs] at h; cases h
      | some ms =>
        rw [hqs] at h
        simp only [Option.map_some, Option.some.injEq] at h
        subst h
        simp [ih hqs]
theorem bodyB_no {u : List UInt8} (h : (32 : UInt8) ∉ u) : bodyB u = some (u, []) := by
  unfold bodyB cutB
  rw [cutGo_none 32 u [] h]
  rfl
theorem bodyB_at {a v : List UInt8} (h : (32 : UInt8) ∉ a) : bodyB (a ++ 32 :: v) = (numsOf (cutB 32 v)).map fun ns => (a, ns) := by
  unfold bodyB
  rw [show cutB 32 (a ++ 32 :: v) = a :: cutB 32 v from cutGo_at 32 a [] v h]

/-- A line as a word, and numbers. -/
def readB (l : List UInt8) : Option (List UInt8 × List Int) := if l.getLast? = some 10 then bodyB l.dropLast else none
theorem readB_snoc (u : List UInt8) : readB (u ++ [10]) = bodyB u := by simp [readB]
theorem readB_none {l : List UInt8} (h : ∀ u, l ≠ u ++ [10]) : readB l = none := by
  unfold readB
  rw [if_neg]
  intro e
  obtain ⟨u, hu⟩ := List.getLast?_eq_some_iff.1 e
  exact h u hu
/-- One number more, where its bound is not 1. -/
def stepN (p : Int) (ns : List Int) : Option (Int × List Int) := if p = 1 then some (0, ns) else match ns with | [] => none | x :: r => some (x, r)
theorem stepN_one (ns : List Int) : stepN 1 ns = some (0, ns) := rfl
theorem stepN_nil {p : Int} (h : p ≠ 1) : stepN p [] = none := by simp [stepN, h]
theorem stepN_cons {p : Int} (h : p ≠ 1) (x : Int) (r : List Int) : stepN p (x :: r) = some (x, r) := by simp [stepN, h]
def asm2 (p q k : Int) (ns : List Int) : Option O3 := match stepN p ns with
  | none => none
  | some (a, r) => match stepN q r with
    | none => none
    | some (b, r') => if r' = [] then some (k, a, b) else none
/-- An op of its What, and the numbers said. -/
def asm (k : Int) (ns : List Int) : Option O3 := if k = 0 then none else asm2 (pA k) (pB k) k ns
/-- A line as an op. -/
def opRead (l : List UInt8) : Option O3 := match readB l with
  | none => none
  | some (p, ns) => asm (namedB p) ns
end Go.Proofs.YtamnfadngbbaeacGreatDoor
namespace Go.Proofs.YtamnfadngbbaeacGreatDoor

theorem idx_cases (c : UInt8) : ∀ l : List UInt8, (c ∉ l ∧ Lib.indexByte l c = -1) ∨ ∃ u v, l = u ++ c :: v ∧ c ∉ u ∧ Lib.indexByte l c = (u.length : Int)
  | [] => Or.inl ⟨by simp, rfl⟩
  | b :: l => by
    by_cases h : b = c
    · exact Or.inr ⟨[], l, by simp [h], by simp, by simp [Lib.indexByte, h]⟩
    · have hb : (b == c) = false := by simpa using h
      rcases idx_cases c l with ⟨h1, h2⟩ | ⟨u, v, h1, h2, h3⟩
      · exact Or.inl ⟨by simp [h1, Ne.symm h], by simp [Lib.indexByte, hb, h2]⟩
      · refine Or.inr ⟨b :: u, v, by simp [h1], by simp [h2, Ne.symm h], ?_⟩
        have h4 : (Lib.indexByte l c == -1) = false := by rw [h3]; simp
        rw [Lib.indexByte, hb, h4, h3]
        simp

/-- The lines that are left, 'cur' the one begun. -/
def linesGo : List UInt8 → List UInt8 → List (List UInt8)
  | cur, [] => if cur = [] then [] else [cur]
  | cur, x :: xs => if x = 10 then (cur ++ [10]) :: linesGo [] xs else linesGo (cur ++ [x]) xs
def linesB (l : List UInt8) : List (List UInt8) := linesGo [] l
theorem linesGo_app : ∀ (u cur m : List UInt8), (10 : UInt8) ∉ u → linesGo cur (u ++ m) = linesGo (cur ++ u) m
  | [], cur, m, _ => by simp
  | x :: xs, cur, m, h => by
    have hx : x ≠ 10 := fun e => h (by simp [e])
    have hxs : (10 : UInt8) ∉ xs := fun e => h (by simp [e])
    rw [List.cons_append, linesGo, if_neg hx, linesGo_app xs _ m hxs]; simp
theorem lines_at {u : List UInt8} (v : List UInt8) (h : (10 : UInt8) ∉ u) : linesB (u ++ 10 :: v) = (u ++ [10]) :: linesB v := by
  unfold linesB
  rw [linesGo_app u [] _ h, linesGo, if_pos rfl]; rfl
theorem lines_end {u : List UInt8} (h : (10 : UInt8) ∉ u) (hne : u ≠ []) : linesB u = [u] := by
  have := linesGo_app u [] [] h
  unfold linesB
  rw [List.append_nil] at this
  rw [this, List.nil_append, linesGo, if_neg hne]
theorem lines_nil : linesB [] = [] := rfl
theorem linesGo_len : ∀ (l cur : List UInt8), (linesGo cur l).length ≤ l.length + 1 ∧ (cur = [] → (linesGo cur l).length ≤ l.length)
  | [], cur => by
    constructor
    · unfold linesGo; split <;> simp
    · intro h; simp [linesGo, h]
  | x :: xs, cur => by
    unfold linesGo
    split
    · have := (linesGo_len xs []).2 rfl; simp; omega
    · have := (linesGo_len xs (cur ++ [x])).1; simp; omega
theorem lines_len (l : List UInt8) : (linesB l).length ≤ l.length := (linesGo_len l []).2 rfl
end Go.Proofs.YtamnfadngbbaeacGreatDoor
namespace Go.Proofs.YtamnfadngbbaeacGreatDoor

def opsOf : List (List UInt8) → Option (List O3)
  | [] => some []
  | p :: ps => match opRead p with
    | none => none
    | some n => (opsOf ps).map (n :: ·)
theorem opsOf_snoc (ps : List (List UInt8)) (ns : List O3) (p : List UInt8) (n : O3) (h : opsOf ps = some ns) (hn : opRead p = some n) : opsOf (ps ++ [p]) = some (ns ++ [n]) := by
  induction ps generalizing ns with
  | nil => simp only [opsOf, Option.some.injEq] at h; subst h; simp [opsOf, hn]
  | cons q qs ih =>
    simp only [opsOf] at h
    cases hq : opRead q with
    | none => rw [hq] at h; cases h
    | some m =>
      rw [hq] at h
      cases hqs : opsOf qs with
      | none => rw [hqs] at h; cases h
      | some ms =>
        rw [hqs] at h
        simp only [Option.map_some, Option.some.injEq] at h
        subst h
        simp [opsOf, hq, ih ms hqs]
theorem opsOf_bad {ps qs : List (List UInt8)} {p : List UInt8} (hn : opRead p = none) : opsOf (ps ++ p :: qs) = none := by
  induction ps with
  | nil => simp [opsOf, hn]
  | cons q rs ih =>
    simp only [List.cons_append, opsOf]
    cases opRead q with
    | none => rfl
    | some m => simp [ih]
/-- A text as code, and the fault. -/
def parseB (t : List UInt8) : List O3 × Int := match opsOf (linesB t) with
  | none => ([], 2)
  | some os => if (chk os).2 = 0 then (os, 0) else ([], (chk os).2)
theorem chk_take (os : List O3) : (chk (os.take 21)).2 = (chk os).2 := by
  by_cases h : os.length ≤ 21
  · rw [List.take_of_length_le h]
  · rw [chk_long (l := os) (by omega), chk_long (l := os.take 21) (by simp; omega)]
theorem take_ok {os : List O3} (h : (chk os).2 = 0) : os.take 21 = os := by
  have := chk_zero h
  exact List.take_of_length_le (by omega)
theorem parseB_bad {t : List UInt8} (h : opsOf (linesB t) = none) : parseB t = ([], 2) := by unfold parseB; rw [h]
theorem parseB_ok {t : List UInt8} {os : List O3} (h : opsOf (linesB t) = some os) (h0 : (chk os).2 = 0) : parseB t = (os, 0) := by unfold parseB; rw [h]; simp only; rw [if_pos h0]
theorem parseB_err {t : List UInt8} {os : List O3} (h : opsOf (linesB t) = some os) (h0 : (chk os).2 ≠ 0) : parseB t = ([], (chk os).2) := by unfold parseB; rw [h]; simp only; rw [if_neg h0]
theorem take_snoc_lt {os : List O3} {o : O3} (h : os.length ≤ 20) : (os ++ [o]).take 21 = os.take 21 ++ [o] := by
  rw [List.take_of_length_le (by simp; omega), List.take_of_length_le (by omega)]
theorem take_snoc_ge {os : List O3} {o : O3} (h : 20 < os.length) : (os ++ [o]).take 21 = os.take 21 := by
  rw [List.take_append_of_le_length (by omega)]
/-- The cells of ops. -/
def cells3 (l : List O3) : List Value := l.flatMap fun o => [.int .i64 o.1, .int .i64 o.2.1, .int .i64 o.2.2]
theorem cells3_snoc (l : List O3) (o : O3) : cells3 (l ++ [o]) = cells3 l ++ [.int .i64 o.1, .int .i64 o.2.1, .int .i64 o.2.2] := by simp [cells3]
theorem cells3_at : ∀ (l : List O3) (i : Nat) (o : O3), l[i]? = some o → (cells3 l)[i * 3]? = some (.int .i64 o.1) ∧ (cells3 l)[i * 3 + 1]? = some (.int .i64 o.2.1) ∧ (cells3 l)[i * 3 + 2]? = some (.int .i64 o.2.2)
  | [], i, o, h => by simp at h
  | x :: l, 0, o, h => by simp at h; subst h; simp [cells3]
  | x :: l, i + 1, o, h => by
    have := cells3_at l i o (by simpa using h)
    have e : cells3 (x :: l) = .int .i64 x.1 :: .int .i64 x.2.1 :: .int .i64 x.2.2 :: cells3 l := by simp [cells3]
    rw [e, show (i + 1) * 3 = i * 3 + 3 by omega]
    simpa using this
end Go.Proofs.YtamnfadngbbaeacGreatDoor
namespace Go.Proofs.YtamnfadngbbaeacGreatDoor

/-- A line as an op, by its word and its other pieces. -/
def rop (p : List UInt8) (ps : List (List UInt8)) : Option O3 := match numsOf ps with
  | none => none
  | some ns => asm (namedB p) ns
theorem opRead_cut {u p : List UInt8} {ps : List (List UInt8)} (h : cutB 32 u = p :: ps) : opRead (u ++ [10]) = rop p ps := by
  unfold opRead rop
  rw [readB_snoc]
  unfold bodyB
  rw [h]
  simp only
  cases numsOf ps <;> rfl
theorem rop_nums {p : List UInt8} {ps : List (List UInt8)} (h : numsOf ps = none) : rop p ps = none := by unfold rop; rw [h]
theorem rop_hit {p : List UInt8} {ps : List (List UInt8)} {ns : List Int} (k : Nat) (h1 : 1 ≤ k) (h2 : k ≤ 11) (h : numsOf ps = some ns) (hp : p = nameB k) : rop p ps = asm k ns := by
  unfold rop
  rw [h]
  simp only
  rw [hp, named_hit k h1 h2]
theorem rop_end {p : List UInt8} {ps : List (List UInt8)} {ns : List Int} (hn : numsOf ps = some ns) (h : ∀ k : Nat, 1 ≤ k → k ≤ 11 → p = nameB k → asm k ns = none) : rop p ps = none := by
  rcases named_cases p with h0 | ⟨k, h1, h2, h3, h4⟩
  · unfold rop; rw [hn]; simp only; rw [h0]; rfl
  · rw [rop_hit k h1 h2 hn h4]
    exact h k h1 h2 h4
def asmJ : List Int → Option O3
  | [x] => some (7, 0, x)
  | _ => none
def asmR (k : Int) : List Int → Option O3
  | [] => some (k, 0, 0)
  | _ => none
def asmT (k : Int) : List Int → Option O3
  | [x, y] => some (k, x, y)
  | _ => none
theorem asmJ_no {ns : List Int} (h : ns.length ≠ 1) : asmJ ns = none := by
  match ns, h with
  | [], _ => rfl
  | [x], h => exact absurd rfl h
  | x :: y :: r, _ => rfl
theorem asmR_no {k : Int} {ns : List Int} (h : ns.length ≠ 0) : asmR k ns = none := by
  match ns, h with
  | [], h => exact absurd rfl h
  | x :: r, _ => rfl
theorem asmT_no {k : Int} {ns : List Int} (h : ns.length ≠ 2) : asmT k ns = none := by
  match ns, h with
  | [], _ => rfl
  | [x], _ => rfl
  | [x, y], h => exact absurd rfl h
  | x :: y :: z :: r, _ => rfl
theorem asm_jump (ns : List Int) : asm 7 ns = asmJ ns := by
  match ns with
  | [] => rfl
  | [x] => rfl
  | x :: y :: r => rfl
theorem asm_rest (k : Nat) (hk : k = 10 ∨ k = 11) (ns : List Int) : asm k ns = asmR k ns := by
  rcases hk with rfl | rfl
  all_goals
    match ns with
    | [] => rfl
    | x :: r => rfl
theorem asm_two (k : Nat) (h1 : 1 ≤ k) (h2 : k < 10) (h7 : k ≠ 7) (ns : List Int) : asm k ns = asmT k ns := by
  have h : k = 1 ∨ k = 2 ∨ k = 3 ∨ k = 4 ∨ k = 5 ∨ k = 6 ∨ k = 8 ∨ k = 9 := by omega
  clear h1 h2 h7
  rcases h with rfl | rfl | rfl | rfl | rfl | rfl | rfl | rfl
  all_goals
    match ns with
    | [] => rfl
    | [x] => rfl
    | [x, y] => rfl
    | x :: y :: z :: r => rfl

theorem two_of {ns : List Int} (h : ns.length = 2) : ∃ x y, ns = [x, y] := by
  match ns, h with
  | [x, y], _ => exact ⟨x, y, rfl⟩
/-- The last piece has no newline; the lines are the others, each with one, and it. -/
theorem cut_lines : ∀ (l cur : List UInt8), (10 : UInt8) ∉ cur → ∃ ps q, cutGo 10 cur l = ps ++ [q] ∧ (10 : UInt8) ∉ q ∧ linesGo cur l = ps.map (· ++ [10]) ++ (if q = [] then [] else [q])
  | [], cur, h => ⟨[], cur, rfl, h, by simp [linesGo]⟩
  | x :: xs, cur, h => by
    by_cases hx : x = 10
    · obtain ⟨ps, q, h1, h2, h3⟩ := cut_lines xs [] (by simp)
      refine ⟨cur :: ps, q, ?_, h2, ?_⟩
      · rw [cutGo_hit hx, h1]; rfl
      · rw [linesGo, if_pos hx, h3]; rfl
    · obtain ⟨ps, q, h1, h2, h3⟩ := cut_lines xs (cur ++ [x]) (by simp [h]; exact fun e => hx e.symm)
      refine ⟨ps, q, ?_, h2, ?_⟩
      · rw [cutGo_miss hx, h1]
      · rw [linesGo, if_neg hx, h3]
theorem opRead_open {q : List UInt8} (h : (10 : UInt8) ∉ q) : opRead q = none := by
  unfold opRead
  rw [readB_none fun u e => h (by rw [e]; simp)]
/-- A text cut at its newlines: what it is as code. -/
theorem parse_cut (t : List UInt8) : ∃ ps q, cutB 10 t = ps ++ [q] ∧ (q ≠ [] → parseB t = ([], 2)) ∧ (q = [] → linesB t = ps.map (· ++ [10])) := by
  obtain ⟨ps, q, h1, h2, h3⟩ := cut_lines t [] (by simp)
  refine ⟨ps, q, h1, fun hq => ?_, fun hq => ?_⟩
  · apply parseB_bad
    unfold linesB
    rw [h3, if_neg hq]
    exact opsOf_bad (opRead_open h2)
  · unfold linesB
    rw [h3, if_pos hq]
    simp
end Go.Proofs.YtamnfadngbbaeacGreatDoor
namespace Go.Proofs.YtamnfadngbbaeacGreatDoor

/-- A number put into a list that rises, once; 'done': it is there. -/
def putGo (n : Int) : Bool → List Int → List Int
  | done, [] => if done then [] else [n]
  | done, x :: xs => if done then x :: putGo n true xs else if x = n then x :: putGo n true xs else if n < x then n :: x :: putGo n true xs else x :: putGo n false xs
theorem putGo_true (n : Int) : ∀ l, putGo n true l = l
  | [] => rfl
  | x :: xs => by simp [putGo, putGo_true n xs]
theorem putGo_nil (n : Int) : putGo n false [] = [n] := rfl
theorem putGo_eq {n x : Int} (h : x = n) (xs : List Int) : putGo n false (x :: xs) = x :: xs := by simp [putGo, h, putGo_true]
theorem putGo_lt {n x : Int} (h : n < x) (xs : List Int) : putGo n false (x :: xs) = n :: x :: xs := by
  have : x ≠ n := by omega
  simp [putGo, this, h, putGo_true]
theorem putGo_gt {n x : Int} (h : x < n) (xs : List Int) : putGo n false (x :: xs) = x :: putGo n false xs := by
  have h1 : x ≠ n := by omega
  have h2 : ¬ n < x := by omega
  simp [putGo, h1, h2]
theorem putGo_len (n : Int) : ∀ d l, (putGo n d l).length ≤ l.length + 1
  | d, [] => by unfold putGo; split <;> simp
  | d, x :: xs => by
    have h1 := putGo_len n true xs
    have h2 := putGo_len n false xs
    have h3 := congrArg List.length (putGo_true n xs)
    unfold putGo
    repeat' split
    all_goals simp only [List.length_cons]; omega
/-- The numbers from s on, k many, of which p says yes. -/
def pickN (p : Nat → Bool) (s k : Nat) : List Int := ((List.range' s k).filter p).map Int.ofNat
theorem pickN_zero (p : Nat → Bool) (s : Nat) : pickN p s 0 = [] := rfl
theorem pickN_succ (p : Nat → Bool) (s k : Nat) : pickN p s (k + 1) = if p s then (s : Int) :: pickN p (s + 1) k else pickN p (s + 1) k := by
  unfold pickN
  rw [List.range'_succ, List.filter_cons]
  split <;> simp
theorem pickN_congr {p q : Nat → Bool} {s k : Nat} (h : ∀ i, s ≤ i → i < s + k → p i = q i) : pickN p s k = pickN q s k := by
  unfold pickN
  congr 1
  apply List.filter_congr
  intro x hx
  rw [List.mem_range'_1] at hx
  exact h x hx.1 (by omega)
theorem pickN_gt (p : Nat → Bool) : ∀ (k s : Nat) (n : Int), n < s → putGo n false (pickN p s k) = n :: pickN p s k
  | 0, s, n, _ => rfl
  | k + 1, s, n, h => by
    rw [pickN_succ]
    split
    · exact putGo_lt h _
    · exact pickN_gt p k (s + 1) n (by omega)
theorem pickN_put (p : Nat → Bool) (m : Nat) : ∀ (k s : Nat), s ≤ m → m < s + k → putGo m false (pickN p s k) = pickN (fun i => p i || i == m) s k
  | 0, s, h1, h2 => by omega
  | k + 1, s, h1, h2 => by
    rw [pickN_succ, pickN_succ]
    by_cases hs : s = m
    · subst hs
      have hc : pickN (fun i => p i || i == s) (s + 1) k = pickN p (s + 1) k := pickN_congr fun i hi _ => by
        have : (i == s) = false := by simp; omega
        simp [this]
      simp only [beq_self_eq_true, Bool.or_true, if_true]
      rw [hc]
      split
      · exact putGo_eq rfl _
      · exact pickN_gt p k (s + 1) s (by omega)
    · have hsm : (s == m) = false := by simpa using hs
      simp only [hsm, Bool.or_false]
      have ih := pickN_put p m k (s + 1) (by omega) (by omega)
      split
      · rw [putGo_gt (by omega), ih]
      · exact ih
/-- An op of that What on that wire. -/
def onW (what : Int) (i : Nat) (o : O3) : Bool := decide (o.1 = what) && decide (o.2.2 = (i : Int))
def wiresB (what : Int) (l : List O3) : List Int := pickN (fun i => l.any (onW what i)) 0 12
def portStep (what : Int) (acc : List Int) (o : O3) : List Int := if o.1 = what then putGo o.2.2 false acc else acc
theorem wires_nil (what : Int) : wiresB what [] = [] := rfl
theorem wires_snoc (what : Int) (l : List O3) (o : O3) (h : o.1 = what → 0 ≤ o.2.2 ∧ o.2.2 < 12) : wiresB what (l ++ [o]) = portStep what (wiresB what l) o := by
  unfold portStep
  by_cases hw : o.1 = what
  · obtain ⟨h1, h2⟩ := h hw
    rw [if_pos hw]
    obtain ⟨m, hm⟩ : ∃ m : Nat, o.2.2 = m := ⟨o.2.2.toNat, by omega⟩
    rw [hm]
    unfold wiresB
    rw [pickN_put _ m 12 0 (by omega) (by omega)]
    apply pickN_congr
    intro i _ _
    have e : onW what i o = (i == m) := by
      rw [Bool.eq_iff_iff]
      simp [onW, hw, hm]
      omega
    rw [List.any_append]
    simp [e]
  · rw [if_neg hw]
    unfold wiresB
    apply pickN_congr
    intro i _ _
    have e : onW what i o = false := by simp [onW, hw]
    rw [List.any_append]
    simp [e]
theorem wires_len (what : Int) (l : List O3) : (wiresB what l).length ≤ 12 := by
  unfold wiresB pickN
  rw [List.length_map]
  have := List.length_filter_le (fun i => l.any (onW what i)) (List.range' 0 12)
  simpa using this
/-- The first i wires of them. -/
theorem pick_snoc (p : Nat → Bool) (k : Nat) : pickN p 0 (k + 1) = if p k then pickN p 0 k ++ [(k : Int)] else pickN p 0 k := by
  unfold pickN
  rw [List.range'_1_concat, List.filter_append, List.map_append]
  simp only [Nat.zero_add, List.filter_cons, List.filter_nil]
  split <;> simp
theorem pick_len (p : Nat → Bool) (k : Nat) : (pickN p 0 k).length ≤ k := by
  unfold pickN
  rw [List.length_map]
  have := List.length_filter_le p (List.range' 0 k)
  simpa using this
end Go.Proofs.YtamnfadngbbaeacGreatDoor
namespace Go.Proofs.YtamnfadngbbaeacGreatDoor

/-- A span: From, To, Room. -/
abbrev S3 := Int × Int × Int
def spOk (n : Int) (s : S3) : Bool := decide (0 ≤ s.1 ∧ s.1 < s.2.1 ∧ s.2.1 ≤ n ∧ 0 ≤ s.2.2 ∧ s.2.2 < 5)
/-- Two share a tick. -/
def clashB (s o : S3) : Bool := decide (o.1 < s.2.1 ∧ s.1 < o.2.1)
/-- What is wrong with the span at a place. -/
def badOf (n : Int) (l : List S3) (s : S3) : Int := if spOk n s = true then (if l.any (clashB s) = true then 7 else 0) else 1
def badAt (n : Int) (l : List S3) (i : Nat) : Int := match l[i]? with
  | none => 0
  | some s => badOf n (l.take i) s
def scan (p : Nat → Int) : Nat → Nat → Int × Int
  | 0, _ => (0, 0)
  | m + 1, i => if p i = 0 then scan p m (i + 1) else ((i : Int), p i)
/-- Which span is wrong, and how. -/
def fchk (n : Int) (l : List S3) : Int × Int := if n < 1 ∨ 40 < n then (0, 1) else if 12 < l.length then (0, 4) else scan (badAt n l) l.length 0

theorem badAt_some {n : Int} {l : List S3} {i : Nat} {s : S3} (h : l[i]? = some s) : badAt n l i = badOf n (l.take i) s := by unfold badAt; rw [h]
theorem scan_zero {p : Nat → Int} : ∀ {m i : Nat}, (∀ j, i ≤ j → j < i + m → p j = 0) → scan p m i = (0, 0)
  | 0, _, _ => rfl
  | m + 1, i, h => by
    unfold scan
    rw [if_pos (h i (Nat.le_refl _) (by omega))]
    exact scan_zero fun j h1 h2 => h j (by omega) (by omega)
theorem scan_all {p : Nat → Int} : ∀ {m i : Nat}, (scan p m i).2 = 0 → ∀ j, i ≤ j → j < i + m → p j = 0
  | 0, _, _, j, h1, h2 => by omega
  | m + 1, i, h, j, h1, h2 => by
    unfold scan at h
    split at h
    · rename_i h0
      by_cases hj : j = i
      · subst hj; exact h0
      · exact scan_all h j (by omega) (by omega)
    · rename_i h0
      exact absurd h h0
theorem scan_step {p : Nat → Int} {m i : Nat} {x : Int × Int} (hi : i < m) (h : scan p m 0 = scan p (m - i) i) (h0 : p i = 0) (e : scan p m 0 = x) : scan p (m - (i + 1)) (i + 1) = x := by
  rw [← e, h, show m - i = (m - (i + 1)) + 1 by omega]
  conv => rhs; unfold scan
  rw [if_pos h0]
theorem scan_next {p : Nat → Int} {m i : Nat} (hi : i < m) (h : scan p m 0 = scan p (m - i) i) (h0 : p i = 0) : scan p m 0 = scan p (m - (i + 1)) (i + 1) :=
  (scan_step hi h h0 rfl).symm
theorem scan_hit {p : Nat → Int} {m i : Nat} (hi : i < m) (h : scan p m 0 = scan p (m - i) i) (h0 : p i ≠ 0) : scan p m 0 = ((i : Int), p i) := by
  rw [h, show m - i = (m - (i + 1)) + 1 by omega]
  unfold scan
  rw [if_neg h0]
theorem scan_end {p : Nat → Int} {m : Nat} (h : scan p m 0 = scan p (m - m) m) : scan p m 0 = (0, 0) := by
  rw [h, Nat.sub_self]
  rfl
theorem scan_fst {p : Nat → Int} : ∀ {m i : Nat}, (scan p m i).2 = 0 → scan p m i = (0, 0) := fun h => scan_zero (scan_all h)

theorem fchk_lo {n : Int} {l : List S3} (h : n < 1 ∨ 40 < n) : fchk n l = (0, 1) := by unfold fchk; rw [if_pos h]
theorem fchk_long {n : Int} {l : List S3} (h : ¬ (n < 1 ∨ 40 < n)) (hl : 12 < l.length) : fchk n l = (0, 4) := by unfold fchk; rw [if_neg h, if_pos hl]
theorem fchk_mid {n : Int} {l : List S3} (h : ¬ (n < 1 ∨ 40 < n)) (hl : ¬ 12 < l.length) : fchk n l = scan (badAt n l) l.length 0 := by unfold fchk; rw [if_neg h, if_neg hl]
theorem fchk_zero {n : Int} {l : List S3} (h : (fchk n l).2 = 0) : 1 ≤ n ∧ n ≤ 40 ∧ l.length ≤ 12 ∧ (∀ s ∈ l, spOk n s = true) ∧ fchk n l = (0, 0) := by
  by_cases h1 : n < 1 ∨ 40 < n
  · rw [fchk_lo h1] at h; simp at h
  by_cases h2 : 12 < l.length
  · rw [fchk_long h1 h2] at h; simp at h
  rw [fchk_mid h1 h2] at h ⊢
  refine ⟨by omega, by omega, by omega, fun s hs => ?_, scan_fst h⟩
  obtain ⟨i, hi, rfl⟩ := List.getElem_of_mem hs
  have := scan_all h i (Nat.zero_le _) (by omega)
  rw [badAt_some (List.getElem?_eq_getElem hi)] at this
  unfold badOf at this
  split at this
  · assumption
  · simp at this

/-- A span has a tick. -/
def hits (t : Int) (s : S3) : Bool := decide (s.1 ≤ t ∧ t < s.2.1)
/-- Who has a tick of one frame; -1: none. -/
def hold : List S3 → Int → Int
  | [], _ => -1
  | s :: l, t => if hits t s = true then s.2.2 else hold l t
/-- At which place a span lies that has the tick; -1: none. -/
def hidx (l : List S3) (t : Int) : Int := match l.findIdx? (hits t) with | some i => i | none => -1
theorem hold_some : ∀ {l : List S3} {t : Int} {i : Nat} {s : S3}, l.findIdx? (hits t) = some i → l[i]? = some s → hold l t = s.2.2
  | [], _, _, _, h, _ => by simp at h
  | x :: l, t, i, s, h, hs => by
    rw [List.findIdx?_cons] at h
    unfold hold
    split at h
    · rename_i hx
      simp at h
      subst h
      simp at hs
      subst hs
      rw [if_pos hx]
    · rename_i hx
      rw [if_neg (by simpa using hx)]
      simp only [Option.map_eq_some_iff] at h
      obtain ⟨k, hk, rfl⟩ := h
      exact hold_some hk (by simpa using hs)
theorem hold_none : ∀ {l : List S3} {t : Int}, l.findIdx? (hits t) = none → hold l t = -1
  | [], _, _ => rfl
  | x :: l, t, h => by
    rw [List.findIdx?_eq_none_iff] at h
    unfold hold
    rw [if_neg (by simp [h x (by simp)])]
    exact hold_none (by rw [List.findIdx?_eq_none_iff]; intro y hy; exact h y (by simp [hy]))
theorem hold_range {n : Int} : ∀ {l : List S3} {t : Int}, (∀ s ∈ l, spOk n s = true) → -1 ≤ hold l t ∧ hold l t < 5
  | [], _, _ => by simp [hold]
  | x :: l, t, h => by
    unfold hold
    split
    · have := h x (by simp)
      simp only [spOk, decide_eq_true_eq] at this
      omega
    · exact hold_range (fun s hs => h s (by simp [hs]))
theorem hold_drop {l : List S3} {t : Int} {k : Nat} {s : S3} (hk : l[k]? = some s) : hold (l.drop k) t = if hits t s = true then s.2.2 else hold (l.drop (k + 1)) t := by
  obtain ⟨h, rfl⟩ := List.getElem?_eq_some_iff.1 hk
  rw [List.drop_eq_getElem_cons h]
  rfl

/-- How many of the first ticks a room has. -/
def cnt (h : Nat → Int) (r : Int) : Nat → Nat
  | 0 => 0
  | t + 1 => cnt h r t + if h t = r then 1 else 0
theorem cnt_le (h : Nat → Int) (r : Int) : ∀ t, cnt h r t ≤ t
  | 0 => Nat.le_refl _
  | t + 1 => by have := cnt_le h r t; unfold cnt; split <;> omega
theorem cnt_zero (h : Nat → Int) (r : Int) : ∀ t, cnt h r t = 0 ↔ ∀ j, j < t → h j ≠ r
  | 0 => by simp [cnt]
  | t + 1 => by
    unfold cnt
    constructor
    · intro h0 j hj
      by_cases he : h t = r
      · rw [if_pos he] at h0; omega
      · rw [if_neg he] at h0
        by_cases hjt : j = t
        · subst hjt; exact he
        · exact (cnt_zero h r t).1 (by omega) j (by omega)
    · intro h0
      rw [if_neg (h0 t (by omega)), (cnt_zero h r t).2 (fun j hj => h0 j (by omega))]
theorem cnt_sum (h : Nat → Int) : ∀ t, cnt h 0 t + cnt h 1 t + cnt h 2 t + cnt h 3 t + cnt h 4 t ≤ t
  | 0 => by simp [cnt]
  | t + 1 => by
    have := cnt_sum h t
    unfold cnt
    by_cases h0 : h t = 0
    · simp [h0]; omega
    by_cases h1 : h t = 1
    · simp [h1]; omega
    by_cases h2 : h t = 2
    · simp [h2]; omega
    by_cases h3 : h t = 3
    · simp [h3]; omega
    by_cases h4 : h t = 4
    · simp [h4]; omega
    · simp [h0, h1, h2, h3, h4]; omega
theorem cnt_up {h : Nat → Int} {r : Int} {t : Nat} (e : h t = r) : cnt h r (t + 1) = cnt h r t + 1 := by simp [cnt, e]
theorem cnt_same {h : Nat → Int} {r : Int} {t : Nat} (e : h t ≠ r) : cnt h r (t + 1) = cnt h r t := by simp [cnt, e]

/-- The widest way so far, and the last tick that was had. -/
def gf (p : Nat → Bool) : Nat → Int × Int
  | 0 => (0, -1)
  | t + 1 => if p t = true then (if 0 ≤ (gf p t).2 then max (gf p t).1 ((t : Int) - (gf p t).2) else (gf p t).1, (t : Int)) else gf p t
theorem gf_hit {p : Nat → Bool} {t : Nat} (h : p t = true) : gf p (t + 1) = (if 0 ≤ (gf p t).2 then max (gf p t).1 ((t : Int) - (gf p t).2) else (gf p t).1, (t : Int)) := by
  conv => lhs; unfold gf
  rw [if_pos h]
theorem gf_miss {p : Nat → Bool} {t : Nat} (h : p t = false) : gf p (t + 1) = gf p t := by
  conv => lhs; unfold gf
  rw [if_neg (by simp [h])]
/-- A tick that is had, and the next one. -/
def Pair (p : Nat → Bool) (i k : Nat) : Prop := p i = true ∧ p k = true ∧ i < k ∧ ∀ j, i < j → j < k → p j = false
theorem gf_last (p : Nat → Bool) : ∀ t, ((gf p t).2 = -1 ∧ ∀ j, j < t → p j = false) ∨ ∃ a : Nat, (gf p t).2 = a ∧ a < t ∧ p a = true ∧ ∀ j, a < j → j < t → p j = false
  | 0 => Or.inl ⟨rfl, fun j hj => by omega⟩
  | t + 1 => by
    cases hp : p t with
    | true =>
      rw [gf_hit hp]
      exact Or.inr ⟨t, rfl, by omega, hp, fun j h1 h2 => by omega⟩
    | false =>
      rw [gf_miss hp]
      rcases gf_last p t with ⟨h0, h1⟩ | ⟨a, h0, h1, h2, h3⟩
      · refine Or.inl ⟨h0, fun j hj => ?_⟩
        by_cases hjt : j = t
        · subst hjt; exact hp
        · exact h1 j (by omega)
      · refine Or.inr ⟨a, h0, by omega, h2, fun j h4 h5 => ?_⟩
        by_cases hjt : j = t
        · subst hjt; exact hp
        · exact h3 j h4 (by omega)
theorem gf_bound (p : Nat → Bool) (t : Nat) : 0 ≤ (gf p t).1 ∧ (gf p t).1 ≤ t ∧ -1 ≤ (gf p t).2 ∧ (gf p t).2 < t := by
  induction t with
  | zero => simp [gf]
  | succ t ih =>
    cases hp : p t with
    | true =>
      rw [gf_hit hp]
      simp only
      split <;> omega
    | false => rw [gf_miss hp]; omega
theorem gf_most (p : Nat → Bool) : ∀ t, (∀ i k, Pair p i k → k < t → (k : Int) - i ≤ (gf p t).1) ∧ ((gf p t).1 = 0 ∨ ∃ i k, Pair p i k ∧ k < t ∧ (gf p t).1 = (k : Int) - i)
  | 0 => ⟨fun i k _ h => by omega, Or.inl rfl⟩
  | t + 1 => by
    obtain ⟨h1, h2⟩ := gf_most p t
    cases hp : p t with
    | false =>
      rw [gf_miss hp]
      refine ⟨fun i k hk hlt => ?_, ?_⟩
      · by_cases hkt : k = t
        · subst hkt; rw [hk.2.1] at hp; cases hp
        · exact h1 i k hk (by omega)
      · rcases h2 with h2 | ⟨i, k, hk, hlt, he⟩
        · exact Or.inl h2
        · exact Or.inr ⟨i, k, hk, by omega, he⟩
    | true =>
      rw [gf_hit hp]
      simp only
      rcases gf_last p t with ⟨l0, l1⟩ | ⟨a, l0, l1, l2, l3⟩
      · rw [if_neg (by rw [l0]; decide)]
        refine ⟨fun i k hk hlt => ?_, ?_⟩
        · have := l1 i (by have := hk.2.2.1; omega)
          rw [hk.1] at this; cases this
        · rcases h2 with h2 | ⟨i, k, hk, hlt, he⟩
          · exact Or.inl h2
          · exact Or.inr ⟨i, k, hk, by omega, he⟩
      · rw [l0, if_pos (by omega)]
        have hpair : Pair p a t := ⟨l2, hp, l1, l3⟩
        refine ⟨fun i k hk hlt => ?_, ?_⟩
        · by_cases hkt : k = t
          · subst hkt
            have hia : i = a := by
              rcases Nat.lt_trichotomy i a with h | h | h
              · have := hk.2.2.2 a h l1; rw [l2] at this; cases this
              · exact h
              · have := l3 i h hk.2.2.1; rw [hk.1] at this; cases this
            subst hia
            omega
          · have := h1 i k hk (by omega)
            omega
        · rcases Int.le_total (gf p t).1 ((t : Int) - a) with h | h
          · rw [Int.max_eq_right h]
            exact Or.inr ⟨a, t, hpair, by omega, rfl⟩
          · rw [Int.max_eq_left h]
            rcases h2 with h2 | ⟨i, k, hk, hlt, he⟩
            · exact Or.inl h2
            · exact Or.inr ⟨i, k, hk, by omega, he⟩

theorem first_from {p : Nat → Bool} : ∀ (d a : Nat), p (a + d) = true → ∃ k, a ≤ k ∧ k ≤ a + d ∧ p k = true ∧ ∀ j, a ≤ j → j < k → p j = false
  | 0, a, h => ⟨a, by omega, by omega, h, fun j h1 h2 => by omega⟩
  | d + 1, a, h => by
    cases ha : p a with
    | true => exact ⟨a, by omega, by omega, ha, fun j h1 h2 => by omega⟩
    | false =>
      obtain ⟨k, h1, h2, h3, h4⟩ := first_from d (a + 1) (by rw [show a + 1 + d = a + (d + 1) by omega]; exact h)
      refine ⟨k, by omega, by omega, h3, fun j h5 h6 => ?_⟩
      by_cases hja : j = a
      · subst hja; exact ha
      · exact h4 j (by omega) h6
theorem last_to {p : Nat → Bool} : ∀ (d a : Nat), p a = true → ∃ k, a ≤ k ∧ k ≤ a + d ∧ p k = true ∧ ∀ j, k < j → j ≤ a + d → p j = false
  | 0, a, h => ⟨a, by omega, by omega, h, fun j h1 h2 => by omega⟩
  | d + 1, a, h => by
    cases hb : p (a + (d + 1)) with
    | true => exact ⟨a + (d + 1), by omega, by omega, hb, fun j h1 h2 => by omega⟩
    | false =>
      obtain ⟨k, h1, h2, h3, h4⟩ := last_to d a h
      refine ⟨k, by omega, by omega, h3, fun j h5 h6 => ?_⟩
      by_cases hja : j = a + (d + 1)
      · subst hja; exact hb
      · exact h4 j h5 (by omega)

/-- Again and again. -/
def Per (p : Nat → Bool) (n : Nat) : Prop := ∀ t, p (t + n) = p t
theorem Per.mul {p : Nat → Bool} {n : Nat} (h : Per p n) (t : Nat) : ∀ q, p (t + n * q) = p t
  | 0 => by simp
  | q + 1 => by rw [Nat.mul_succ, ← Nat.add_assoc, h, h.mul t q]
theorem Per.mod {p : Nat → Bool} {n : Nat} (h : Per p n) (t : Nat) : p (t % n) = p t := by
  conv => rhs; rw [← Nat.mod_add_div t n]
  rw [h.mul]
theorem Pair.le {p : Nat → Bool} {n i k : Nat} (hn : 0 < n) (h : Per p n) (hp : Pair p i k) : k ≤ i + n := by
  rcases Nat.lt_or_ge (i + n) k with h1 | h1
  · have := hp.2.2.2 (i + n) (by omega) h1
    rw [h, hp.1] at this; cases this
  · exact h1
theorem Pair.shift {p : Nat → Bool} {n i k : Nat} (h : Per p n) (hp : Pair p i k) : Pair p (i + n) (k + n) :=
  ⟨by rw [h]; exact hp.1, by rw [h]; exact hp.2.1, by have := hp.2.2.1; omega, fun j h1 h2 => by
    rw [show j = (j - n) + n by omega, h]
    exact hp.2.2.2 (j - n) (by omega) (by omega)⟩
theorem Pair.back {p : Nat → Bool} {n i k : Nat} (h : Per p n) (hp : Pair p (i + n) (k + n)) : Pair p i k :=
  ⟨by rw [← h]; exact hp.1, by rw [← h]; exact hp.2.1, by have := hp.2.2.1; omega, fun j h1 h2 => by
    rw [← h]
    exact hp.2.2.2 (j + n) (by omega) (by omega)⟩
theorem Pair.low {p : Nat → Bool} {n : Nat} (hn : 0 < n) (h : Per p n) : ∀ (i k : Nat), Pair p i k → ∃ i' k', Pair p i' k' ∧ i' < n ∧ (k' : Int) - i' = (k : Int) - i := fun i => by
  induction i using Nat.strongRecOn with
  | ind i ih =>
    intro k hp
    by_cases hi : i < n
    · exact ⟨i, k, hp, hi, rfl⟩
    · have hk := hp.2.2.1
      have hp' : Pair p (i - n) (k - n) := by
        apply Pair.back h
        rw [show i - n + n = i by omega, show k - n + n = k by omega]
        exact hp
      obtain ⟨i', k', h1, h2, h3⟩ := ih (i - n) (by omega) (k - n) hp'
      exact ⟨i', k', h1, h2, by omega⟩
/-- The gap. -/
def gap (p : Nat → Bool) (n : Nat) : Int := (gf p (2 * n)).1
/-- What the loop over one frame holds. -/
def Wide (p : Nat → Bool) (t : Nat) (m : Int) : Prop := (∀ i k, Pair p i k → i < t → (k : Int) - i ≤ m) ∧ (m = 0 ∨ ∃ i k, Pair p i k ∧ i < t ∧ m = (k : Int) - i)
theorem Wide.zero (p : Nat → Bool) : Wide p 0 0 := ⟨fun i k _ h => by omega, Or.inl rfl⟩
theorem gap_most {p : Nat → Bool} {n : Nat} (hn : 0 < n) (h : Per p n) : ∀ i k, Pair p i k → (k : Int) - i ≤ gap p n := fun i k hp => by
  obtain ⟨i', k', h1, h2, h3⟩ := Pair.low hn h i k hp
  rw [← h3]
  exact (gf_most p (2 * n)).1 i' k' h1 (by have := h1.le hn h; omega)
theorem gap_wide {p : Nat → Bool} {n : Nat} {m : Int} (hn : 0 < n) (h : Per p n) (hw : Wide p n m) (hm : 0 ≤ m) : m = gap p n := by
  have hb := gf_bound p (2 * n)
  apply Int.le_antisymm
  · rcases hw.2 with h0 | ⟨i, k, hp, hi, he⟩
    · rw [h0]; exact hb.1
    · rw [he]; exact gap_most hn h i k hp
  · rcases (gf_most p (2 * n)).2 with h0 | ⟨i, k, hp, hi, he⟩
    · unfold gap; rw [h0]; exact hm
    · unfold gap
      rw [he]
      obtain ⟨i', k', h1, h2, h3⟩ := Pair.low hn h i k hp
      rw [← h3]
      exact hw.1 i' k' h1 h2
theorem Wide.miss {p : Nat → Bool} {t : Nat} {m : Int} (h : Wide p t m) (hp : p t = false) : Wide p (t + 1) m := by
  refine ⟨fun i k hk hi => ?_, ?_⟩
  · by_cases hit : i = t
    · subst hit; rw [hk.1] at hp; cases hp
    · exact h.1 i k hk (by omega)
  · rcases h.2 with h0 | ⟨i, k, hk, hi, he⟩
    · exact Or.inl h0
    · exact Or.inr ⟨i, k, hk, by omega, he⟩
theorem Pair.same {p : Nat → Bool} {i k k' : Nat} (h : Pair p i k) (h' : Pair p i k') : k = k' := by
  rcases Nat.lt_trichotomy k k' with h1 | h1 | h1
  · have := h'.2.2.2 k h.2.2.1 h1; rw [h.2.1] at this; cases this
  · exact h1
  · have := h.2.2.2 k' h'.2.2.1 h1; rw [h'.2.1] at this; cases this
theorem Wide.more {p : Nat → Bool} {t k : Nat} {m : Int} (h : Wide p t m) (hp : Pair p t k) (hg : m < (k : Int) - t) : Wide p (t + 1) ((k : Int) - t) := by
  refine ⟨fun i k' hk hi => ?_, Or.inr ⟨t, k, hp, by omega, rfl⟩⟩
  by_cases hit : i = t
  · subst hit
    rw [hp.same hk]
    exact Int.le_refl _
  · have := h.1 i k' hk (by omega)
    omega
theorem Wide.less {p : Nat → Bool} {t k : Nat} {m : Int} (h : Wide p t m) (hp : Pair p t k) (hg : ¬ m < (k : Int) - t) : Wide p (t + 1) m := by
  refine ⟨fun i k' hk hi => ?_, ?_⟩
  · by_cases hit : i = t
    · subst hit
      rw [← hp.same hk]
      omega
    · exact h.1 i k' hk (by omega)
  · rcases h.2 with h0 | ⟨i, k, hk, hi, he⟩
    · exact Or.inl h0
    · exact Or.inr ⟨i, k, hk, by omega, he⟩
theorem pair_ex {p : Nat → Bool} {n i : Nat} (hn : 0 < n) (h : Per p n) (hp : p i = true) : ∃ k, Pair p i k := by
  obtain ⟨k, h1, h2, h3, h4⟩ := first_from (p := p) (n - 1) (i + 1) (by rw [show i + 1 + (n - 1) = i + n by omega, h]; exact hp)
  exact ⟨k, hp, h3, by omega, fun j h5 h6 => h4 j (by omega) h6⟩
theorem gap_le {p : Nat → Bool} {n : Nat} (hn : 0 < n) (h : Per p n) : gap p n ≤ n := by
  rcases (gf_most p (2 * n)).2 with h0 | ⟨i, k, hp, hi, he⟩
  · unfold gap; rw [h0]; omega
  · unfold gap
    rw [he]
    have := hp.le hn h
    omega
theorem gap_pos {p : Nat → Bool} {n i : Nat} (hn : 0 < n) (h : Per p n) (hp : p i = true) : 1 ≤ gap p n := by
  obtain ⟨k, hk⟩ := pair_ex hn h hp
  have h1 := gap_most hn h i k hk
  have h2 := hk.2.2.1
  omega
theorem gap_none {p : Nat → Bool} {n : Nat} (hn : 0 < n) (h : Per p n) (hp : ∀ j, j < n → p j = false) : gap p n = 0 := by
  rcases (gf_most p (2 * n)).2 with h0 | ⟨i, k, hk, hi, he⟩
  · exact h0
  · have := hp (i % n) (Nat.mod_lt _ hn)
    rw [h.mod, hk.1] at this; cases this
theorem gap_in {p : Nat → Bool} {n i : Nat} (hn : 0 < n) (h : Per p n) (hp : p i = true) (t : Nat) : ∃ k : Nat, (k : Int) < gap p n ∧ p (t + k) = true := by
  -- a tick that is had, behind t - n, not behind t
  have hin : p (i % n) = true := by rw [h.mod]; exact hp
  have hlt := Nat.mod_lt i hn
  obtain ⟨a, a1, a2, a3, a4⟩ := last_to (p := p) (t + n - 1 - i % n) (i % n) hin
  have hend : i % n + (t + n - 1 - i % n) = t + n - 1 := by omega
  rw [hend] at a2 a4
  obtain ⟨k, hk⟩ := pair_ex hn h a3
  have hg := gap_most hn h a k hk
  have hk1 := hk.2.2.1
  have hk2 : t + n ≤ k := by
    rcases Nat.lt_or_ge k (t + n) with h1 | h1
    · have := a4 k hk1 (by omega)
      rw [hk.2.1] at this; cases this
    · exact h1
  refine ⟨k - (t + n), by omega, ?_⟩
  rw [← h]
  rw [show t + (k - (t + n)) + n = k by omega]
  exact hk.2.1

/-- Whether a room has a tick, of any frame. -/
def had (l : List S3) (n : Nat) (r : Int) (t : Nat) : Bool := decide (hold l ((t % n : Nat) : Int) = r)
theorem had_per (l : List S3) (n : Nat) (r : Int) : Per (had l n r) n := fun t => by unfold had; rw [Nat.add_mod_right]
theorem had_cnt {l : List S3} {n : Nat} {r : Int} : cnt (fun t => hold l (t : Int)) r n = 0 ↔ ∀ j, j < n → had l n r j = false := by
  rw [cnt_zero]
  constructor
  · intro h j hj
    unfold had
    rw [Nat.mod_eq_of_lt hj]
    exact decide_eq_false (h j hj)
  · intro h j hj
    have := h j hj
    unfold had at this
    rw [Nat.mod_eq_of_lt hj] at this
    simpa using this
theorem badOf_range {n : Int} {l : List S3} {s : S3} (h : spOk n s = false) : badOf n l s = 1 := by unfold badOf; rw [if_neg (by simp [h])]
theorem badOf_clash {n : Int} {l : List S3} {s : S3} (h : spOk n s = true) (hc : l.any (clashB s) = true) : badOf n l s = 7 := by unfold badOf; rw [if_pos h, if_pos hc]
theorem badOf_none {n : Int} {l : List S3} {s : S3} (h : spOk n s = true) (hc : l.any (clashB s) = false) : badOf n l s = 0 := by unfold badOf; rw [if_pos h, if_neg (by simp [hc])]
end Go.Proofs.YtamnfadngbbaeacGreatDoor
namespace Go.Proofs.YtamnfadngbbaeacGreatDoor

/-- How deep a wire of a kind may be. -/
def dpst (k : Int) : Int := if k = 1 then 1 else if k = 2 then 6 else 0
/-- What is wrong with a wire. -/
def wchk (f t k d : Int) : Int :=
  if 0 ≤ f ∧ f < 5 ∧ 0 ≤ t ∧ t < 5 ∧ 1 ≤ d ∧ d ≤ dpst k then (if f = t then 3 else 0) else 1
theorem wchk_kind {f t k d : Int} (h : wchk f t k d = 0) : (k = 1 ∧ d = 1) ∨ (k = 2 ∧ 1 ≤ d ∧ d ≤ 6) := by
  unfold wchk dpst at h
  by_cases h1 : k = 1
  · subst h1
    simp at h
    omega
  · by_cases h2 : k = 2
    · subst h2
      simp at h
      omega
    · simp [h1, h2] at h
      omega
/-- Numbers from one on, so many. -/
def rng (a : Int) (n : Nat) : List Int := (List.range n).map fun (i : Nat) => a + (i : Int)
theorem rng_len (a : Int) (n : Nat) : (rng a n).length = n := by simp [rng]
theorem rng_snoc (a : Int) (n : Nat) : rng a (n + 1) = rng a n ++ [a + n] := by simp [rng, List.range_succ]
theorem rng_zero (a : Int) : rng a 0 = [] := rfl
theorem rng_cons (a : Int) (n : Nat) : rng a (n + 1) = a :: rng (a + 1) n := by
  unfold rng
  rw [List.range_succ_eq_map]
  simp only [List.map_cons, List.map_map]
  refine congr (congrArg _ (by simp)) (List.map_congr_left fun i _ => ?_)
  simp
  omega
end Go.Proofs.YtamnfadngbbaeacGreatDoor
namespace Go.Proofs.YtamnfadngbbaeacGreatDoor

/-- A wire: from, to, kind, deep. -/
abbrev W4 := Int × Int × Int × Int
def w4chk (x : W4) : Int := wchk x.1 x.2.1 x.2.2.1 x.2.2.2
/-- Is there a wire from one to another one, or are they the same? -/
def edge (l : List W4) (i k : Nat) : Bool := decide (i = k) || l.any fun x => decide (x.1 = (i : Int)) && decide (x.2.1 = (k : Int))
/-- Is there a way, with none but rooms below m between? -/
def pm (e : Nat → Nat → Bool) : Nat → Nat → Nat → Bool
  | 0, i, k => e i k
  | m + 1, i, k => pm e m i k || (pm e m i m && pm e m m k)
theorem pm_zero (e : Nat → Nat → Bool) (i k : Nat) : pm e 0 i k = e i k := rfl
theorem pm_succ (e : Nat → Nat → Bool) (m i k : Nat) : pm e (m + 1) i k = (pm e m i k || (pm e m i m && pm e m m k)) := rfl
theorem pm_grow {e : Nat → Nat → Bool} {m i k : Nat} (h : pm e m i k = true) : pm e (m + 1) i k = true := by rw [pm_succ, h]; rfl
theorem pm_col {e : Nat → Nat → Bool} {m i : Nat} (h : pm e (m + 1) i m = true) : pm e m i m = true := by
  rw [pm_succ] at h
  cases h1 : pm e m i m
  · rw [h1] at h; simp at h
  · rfl
theorem pm_row {e : Nat → Nat → Bool} {m k : Nat} (h : pm e (m + 1) m k = true) : pm e m m k = true := by
  rw [pm_succ] at h
  cases h1 : pm e m m k
  · rw [h1] at h; simp at h
  · rfl
theorem pm_via {e : Nat → Nat → Bool} {m i k : Nat} (h1 : pm e m i m = true) (h2 : pm e m m k = true) : pm e (m + 1) i k = true := by rw [pm_succ, h1, h2]; simp
theorem pm_cases {e : Nat → Nat → Bool} {m i k : Nat} (h : pm e (m + 1) i k = true) : pm e m i k = true ∨ (pm e m i m = true ∧ pm e m m k = true) := by
  rw [pm_succ] at h
  simpa using h
theorem pm_trans (e : Nat → Nat → Bool) : ∀ (m i j k : Nat), j < m → pm e m i j = true → pm e m j k = true → pm e m i k = true
  | 0, i, j, k, h, _, _ => absurd h (Nat.not_lt_zero _)
  | m + 1, i, j, k, hj, h1, h2 => by
    by_cases hjm : j = m
    · subst hjm
      exact pm_via (pm_col h1) (pm_row h2)
    · have hj' : j < m := by omega
      rcases pm_cases h1 with a | ⟨a, b⟩
      · rcases pm_cases h2 with c | ⟨c, d⟩
        · exact pm_grow (pm_trans e m i j k hj' a c)
        · exact pm_via (pm_trans e m i j m hj' a c) d
      · rcases pm_cases h2 with c | ⟨c, d⟩
        · exact pm_via a (pm_trans e m m j k hj' b c)
        · exact pm_via a d
theorem pm_edge (e : Nat → Nat → Bool) : ∀ (m i k : Nat), e i k = true → pm e m i k = true
  | 0, _, _, h => h
  | m + 1, i, k, h => pm_grow (pm_edge e m i k h)
theorem pm_mono {e f : Nat → Nat → Bool} (h : ∀ i k, e i k = true → f i k = true) : ∀ (m i k : Nat), pm e m i k = true → pm f m i k = true
  | 0, i, k, h1 => h i k h1
  | m + 1, i, k, h1 => by
    rcases pm_cases h1 with a | ⟨a, b⟩
    · exact pm_grow (pm_mono h m i k a)
    · exact pm_via (pm_mono h m i m a) (pm_mono h m m k b)
/-- What each edge keeps, and what goes from one to the next, each way keeps. -/
theorem pm_keep {e : Nat → Nat → Bool} {R : Nat → Nat → Prop} (he : ∀ i k, e i k = true → R i k) (ht : ∀ i j k, R i j → R j k → R i k) : ∀ (m i k : Nat), pm e m i k = true → R i k
  | 0, i, k, h => he i k h
  | m + 1, i, k, h => by
    rcases pm_cases h with a | ⟨a, b⟩
    · exact pm_keep he ht m i k a
    · exact ht i m k (pm_keep he ht m i m a) (pm_keep he ht m m k b)
/-- Who reaches whom. -/
def way (l : List W4) (i k : Nat) : Bool := pm (edge l) 5 i k
theorem way_self (l : List W4) (i : Nat) : way l i i = true := pm_edge _ 5 i i (by simp [edge])
theorem way_trans (l : List W4) {i j k : Nat} (hj : j < 5) (h1 : way l i j = true) (h2 : way l j k = true) : way l i k = true := pm_trans _ 5 i j k hj h1 h2
theorem edge_more (l m : List W4) {i k : Nat} (h : edge l i k = true) : edge (l ++ m) i k = true := by
  simp only [edge, Bool.or_eq_true, List.any_append] at h ⊢
  rcases h with h | h
  · exact Or.inl h
  · exact Or.inr (Or.inl h)
theorem way_more (l m : List W4) {i k : Nat} (h : way l i k = true) : way (l ++ m) i k = true := pm_mono (fun _ _ h => edge_more l m h) 5 i k h
theorem edge_wire {l : List W4} {x : W4} (hx : x ∈ l) {i k : Nat} (h1 : x.1 = (i : Int)) (h2 : x.2.1 = (k : Int)) : edge l i k = true := by
  simp only [edge, Bool.or_eq_true, List.any_eq_true]
  exact Or.inr ⟨x, hx, by simp [h1, h2]⟩
/-- Whoever is reached by a step that starts where it is reached: the least such relation. -/
theorem way_least {l : List W4} {R : Nat → Nat → Prop} (hr : ∀ i, R i i) (hw : ∀ x ∈ l, ∀ i k : Nat, x.1 = (i : Int) → x.2.1 = (k : Int) → R i k) (ht : ∀ i j k, R i j → R j k → R i k) {i k : Nat} (h : way l i k = true) : R i k := by
  refine pm_keep (fun i k he => ?_) ht 5 i k h
  simp only [edge, Bool.or_eq_true, decide_eq_true_eq, List.any_eq_true, Bool.and_eq_true] at he
  rcases he with rfl | ⟨x, hx, h1, h2⟩
  · exact hr i
  · exact hw x hx i k h1 h2
/-- The first that is wrong. -/
def wscan : List W4 → Nat → Int × Int
  | [], _ => (0, 0)
  | x :: l, i => if w4chk x = 0 then wscan l (i + 1) else ((i : Int), w4chk x)
/-- What is wrong with wires: which, and how. -/
def wschk (l : List W4) : Int × Int := if 12 < l.length then (0, 4) else wscan l 0
theorem wscan_ok : ∀ {l : List W4} {i : Nat}, (wscan l i).2 = 0 → ∀ x ∈ l, w4chk x = 0
  | [], _, _, x, hx => by simp at hx
  | y :: l, i, h, x, hx => by
    unfold wscan at h
    by_cases hy : w4chk y = 0
    · rw [if_pos hy] at h
      rcases List.mem_cons.1 hx with rfl | hx
      · exact hy
      · exact wscan_ok h x hx
    · rw [if_neg hy] at h
      exact absurd h hy
theorem wschk_ok {l : List W4} (h : (wschk l).2 = 0) : l.length ≤ 12 ∧ ∀ x ∈ l, w4chk x = 0 := by
  unfold wschk at h
  by_cases hl : 12 < l.length
  · rw [if_pos hl] at h; simp at h
  · rw [if_neg hl] at h
    exact ⟨by omega, wscan_ok h⟩
theorem wscan_skip : ∀ (l : List W4) (k i : Nat), (∀ j x, j < k → l[j]? = some x → w4chk x = 0) → wscan l i = wscan (l.drop k) (i + k)
  | l, 0, i, _ => by simp
  | [], k + 1, i, _ => by simp [wscan]
  | x :: l, k + 1, i, h => by
    have hx : w4chk x = 0 := h 0 x (by omega) rfl
    have := wscan_skip l k (i + 1) (fun j y hj hy => h (j + 1) y (by omega) (by simpa using hy))
    simp only [wscan, hx, if_true, List.drop_succ_cons, this]
    congr 1
    omega
theorem wscan_hit {l : List W4} {k : Nat} {x : W4} (h : ∀ j y, j < k → l[j]? = some y → w4chk y = 0) (hx : l[k]? = some x) (hb : w4chk x ≠ 0) : wscan l 0 = ((k : Int), w4chk x) := by
  rw [wscan_skip l k 0 h]
  obtain ⟨hk, rfl⟩ := List.getElem?_eq_some_iff.1 hx
  rw [List.drop_eq_getElem_cons hk, wscan, if_neg hb, Nat.zero_add]
theorem wscan_none {l : List W4} (h : ∀ j y, j < l.length → l[j]? = some y → w4chk y = 0) : wscan l 0 = (0, 0) := by
  rw [wscan_skip l l.length 0 h]
  simp [wscan]
theorem w4_rooms {x : W4} (h : w4chk x = 0) : 0 ≤ x.1 ∧ x.1 < 5 ∧ 0 ≤ x.2.1 ∧ x.2.1 < 5 ∧ x.1 ≠ x.2.1 := by
  unfold w4chk wchk at h
  split at h
  · rename_i hc
    split at h
    · simp at h
    · omega
  · simp at h
end Go.Proofs.YtamnfadngbbaeacGreatDoor
namespace Go.Proofs.YtamnfadngbbaeacGreatDoor

/-- A plan: the code of each room, ticks, spans, wires. -/
structure PD where
  code : List (List O3)
  ticks : Int
  spans : List S3
  wires : List W4
def PD.none : PD := ⟨[], 0, [], []⟩
/-- The fault of the first code that is wrong. -/
def codesE : List (List O3) → Int
  | [] => 0
  | c :: r => if (chk c).2 = 0 then codesE r else (chk c).2
/-- Is a wire none of a room's own? -/
def portB (at' : W4 → Int) (ws : List W4) (i : Nat) (k : Int) : Bool := match ws[k.toNat]? with
  | none => true
  | some x => !decide (at' x = (i : Int))
def portsB (ws : List W4) (i : Nat) (c : List O3) : Bool := (wiresB 8 c).any (portB (·.1) ws i) || (wiresB 9 c).any (portB (·.2.1) ws i)
def portsAny (ws : List W4) : Nat → List (List O3) → Bool
  | _, [] => false
  | i, c :: r => portsB ws i c || portsAny ws (i + 1) r
/-- Does a span name a room that has no code? -/
def spanOut (n : Nat) (s : S3) : Bool := decide ((n : Int) ≤ s.2.2)
def wireOut (n : Nat) (x : W4) : Bool := decide ((n : Int) ≤ x.1) || decide ((n : Int) ≤ x.2.1)
/-- The fault of a plan. -/
def plchk (p : PD) : Int :=
  if 5 < p.code.length then 4 else if p.code.length = 0 then 5 else
  if (fchk p.ticks p.spans).2 ≠ 0 then (fchk p.ticks p.spans).2 else
  if (wschk p.wires).2 ≠ 0 then (wschk p.wires).2 else
  if p.spans.any (spanOut p.code.length) = true then 1 else
  if p.wires.any (wireOut p.code.length) = true then 1 else
  if codesE p.code ≠ 0 then codesE p.code else
  if portsAny p.wires 0 p.code = true then 3 else 0
theorem plchk_long {p : PD} (h : 5 < p.code.length) : plchk p = 4 := by rw [plchk, if_pos h]
theorem plchk_none {p : PD} (h : p.code.length = 0) : plchk p = 5 := by rw [plchk, if_neg (by omega), if_pos h]
theorem plchk_frame {p : PD} (h1 : p.code.length ≤ 5) (h2 : p.code.length ≠ 0) (h3 : (fchk p.ticks p.spans).2 ≠ 0) : plchk p = (fchk p.ticks p.spans).2 := by rw [plchk, if_neg (by omega), if_neg h2, if_pos h3]
theorem plchk_wires {p : PD} (h1 : p.code.length ≤ 5) (h2 : p.code.length ≠ 0) (h3 : (fchk p.ticks p.spans).2 = 0) (h4 : (wschk p.wires).2 ≠ 0) : plchk p = (wschk p.wires).2 := by
  rw [plchk, if_neg (by omega), if_neg h2, if_neg (by simpa using h3), if_pos h4]
theorem plchk_span {p : PD} (h1 : p.code.length ≤ 5) (h2 : p.code.length ≠ 0) (h3 : (fchk p.ticks p.spans).2 = 0) (h4 : (wschk p.wires).2 = 0) (h5 : p.spans.any (spanOut p.code.length) = true) : plchk p = 1 := by
  rw [plchk, if_neg (by omega), if_neg h2, if_neg (by simpa using h3), if_neg (by simpa using h4), if_pos h5]
theorem plchk_wire {p : PD} (h1 : p.code.length ≤ 5) (h2 : p.code.length ≠ 0) (h3 : (fchk p.ticks p.spans).2 = 0) (h4 : (wschk p.wires).2 = 0) (h5 : p.spans.any (spanOut p.code.length) = false) (h6 : p.wires.any (wireOut p.code.length) = true) : plchk p = 1 := by
  rw [plchk, if_neg (by omega), if_neg h2, if_neg (by simpa using h3), if_neg (by simpa using h4), if_neg (by rw [h5]; decide), if_pos h6]
theorem plchk_tail {p : PD} (h1 : p.code.length ≤ 5) (h2 : p.code.length ≠ 0) (h3 : (fchk p.ticks p.spans).2 = 0) (h4 : (wschk p.wires).2 = 0) (h5 : p.spans.any (spanOut p.code.length) = false) (h6 : p.wires.any (wireOut p.code.length) = false) :
    plchk p = if codesE p.code ≠ 0 then codesE p.code else if portsAny p.wires 0 p.code = true then 3 else 0 := by
  rw [plchk, if_neg (by omega), if_neg h2, if_neg (by simpa using h3), if_neg (by simpa using h4), if_neg (by rw [h5]; decide), if_neg (by rw [h6]; decide)]
theorem plchk_zero {p : PD} (h : plchk p = 0) : p.code.length ≤ 5 ∧ p.code.length ≠ 0 ∧ (fchk p.ticks p.spans).2 = 0 ∧ (wschk p.wires).2 = 0 ∧ p.spans.any (spanOut p.code.length) = false ∧ p.wires.any (wireOut p.code.length) = false ∧ codesE p.code = 0 ∧ portsAny p.wires 0 p.code = false := by
  unfold plchk at h
  split at h
  · simp at h
  · rename_i h1
    split at h
    · simp at h
    · rename_i h2
      split at h
      · contradiction
      · rename_i h3
        split at h
        · contradiction
        · rename_i h4
          split at h
          · simp at h
          · rename_i h5
            split at h
            · simp at h
            · rename_i h6
              split at h
              · contradiction
              · rename_i h7
                split at h
                · simp at h
                · rename_i h8
                  exact ⟨by omega, h2, by simpa using h3, by simpa using h4, by simpa using h5, by simpa using h6, by simpa using h7, by simpa using h8⟩
theorem codesE_zero : ∀ {l : List (List O3)}, codesE l = 0 → ∀ c ∈ l, (chk c).2 = 0
  | [], _, c, hc => by simp at hc
  | x :: l, h, c, hc => by
    rw [codesE] at h
    by_cases hx : (chk x).2 = 0
    · rw [if_pos hx] at h
      rcases List.mem_cons.1 hc with rfl | hc
      · exact hx
      · exact codesE_zero h c hc
    · rw [if_neg hx] at h
      exact absurd h hx
theorem codesE_skip : ∀ (l : List (List O3)) (k : Nat), (∀ (j : Nat) c, j < k → l[j]? = some c → (chk c).2 = 0) → codesE l = codesE (l.drop k)
  | l, 0, _ => by simp
  | [], k + 1, _ => by simp
  | x :: l, k + 1, h => by
    have hx : (chk x).2 = 0 := h 0 x (by omega) rfl
    rw [codesE, if_pos hx, List.drop_succ_cons]
    exact codesE_skip l k (fun j c hj hc => h (j + 1) c (by omega) (by simpa using hc))
theorem codesE_hit {l : List (List O3)} {k : Nat} {c : List O3} (h : ∀ (j : Nat) c, j < k → l[j]? = some c → (chk c).2 = 0) (hc : l[k]? = some c) (hb : (chk c).2 ≠ 0) : codesE l = (chk c).2 := by
  rw [codesE_skip l k h]
  obtain ⟨hk, rfl⟩ := List.getElem?_eq_some_iff.1 hc
  rw [List.drop_eq_getElem_cons hk, codesE, if_neg hb]
theorem codesE_ok {l : List (List O3)} (h : ∀ (j : Nat) c, j < l.length → l[j]? = some c → (chk c).2 = 0) : codesE l = 0 := by
  rw [codesE_skip l l.length h]
  simp [codesE]
theorem portsAny_skip (ws : List W4) : ∀ (l : List (List O3)) (k i : Nat), (∀ (j : Nat) c, j < k → l[j]? = some c → portsB ws (i + j) c = false) → portsAny ws i l = portsAny ws (i + k) (l.drop k)
  | l, 0, i, _ => by simp
  | [], k + 1, i, _ => by simp [portsAny]
  | x :: l, k + 1, i, h => by
    have hx : portsB ws i x = false := h 0 x (by omega) rfl
    rw [portsAny, hx, Bool.false_or, List.drop_succ_cons, show i + (k + 1) = i + 1 + k by omega]
    exact portsAny_skip ws l k (i + 1) (fun j c hj hc => by rw [show i + 1 + j = i + (j + 1) by omega]; exact h (j + 1) c (by omega) (by simpa using hc))
theorem portsAny_hit {ws : List W4} {l : List (List O3)} {k : Nat} {c : List O3} (h : ∀ (j : Nat) c, j < k → l[j]? = some c → portsB ws j c = false) (hc : l[k]? = some c) (hb : portsB ws k c = true) : portsAny ws 0 l = true := by
  rw [portsAny_skip ws l k 0 (fun j c hj hx => by rw [Nat.zero_add]; exact h j c hj hx), Nat.zero_add]
  obtain ⟨hk, rfl⟩ := List.getElem?_eq_some_iff.1 hc
  rw [List.drop_eq_getElem_cons hk, portsAny, hb, Bool.true_or]
theorem portsAny_ok {ws : List W4} {l : List (List O3)} (h : ∀ (j : Nat) c, j < l.length → l[j]? = some c → portsB ws j c = false) : portsAny ws 0 l = false := by
  rw [portsAny_skip ws l l.length 0 (fun j c hj hx => by rw [Nat.zero_add]; exact h j c hj hx)]
  simp [portsAny]

/-! Lines. -/
def wFrame : List UInt8 := [102, 114, 97, 109, 101]
def wSpan : List UInt8 := [115, 112, 97, 110]
def wWire : List UInt8 := [119, 105, 114, 101]
def wRoom : List UInt8 := [114, 111, 111, 109]
def frameL (n : Int) : List UInt8 := wFrame ++ tail [n]
def spanL (s : S3) : List UInt8 := wSpan ++ tail [s.1, s.2.1, s.2.2]
def wireL (x : W4) : List UInt8 := wWire ++ tail [x.1, x.2.1, x.2.2.1, x.2.2.2]
/-- An op's line, without its end. -/
def opL (o : O3) : List UInt8 := nameB o.1 ++ tail (numsB o)
def roomL (c : List O3) : List (List UInt8) := wRoom :: c.map opL
/-- The lines of a plan, without their ends. -/
def planL (p : PD) : List (List UInt8) := frameL p.ticks :: (p.spans.map spanL ++ (p.wires.map wireL ++ p.code.flatMap roomL))
/-- Lines with their ends, as a text. -/
def endL (ls : List (List UInt8)) : List UInt8 := ls.flatMap (· ++ [10])
def planB (p : PD) : List UInt8 := endL (planL p)

/-! A text as a plan. -/
def spanOf (u : List UInt8) : Option S3 := match bodyB u with
  | some (p, [a, b, c]) => if p = wSpan then some (a, b, c) else none
  | _ => none
def wireOf (u : List UInt8) : Option W4 := match bodyB u with
  | some (p, [a, b, c, d]) => if p = wWire then some (a, b, c, d) else none
  | _ => none
def frameOf (u : List UInt8) : Option Int := match bodyB u with
  | some (p, [a]) => if p = wFrame then some a else none
  | _ => none
def takeF {α : Type} (f : List UInt8 → Option α) : List (List UInt8) → List α × List (List UInt8)
  | [] => ([], [])
  | u :: r => match f u with
    | none => ([], u :: r)
    | some s => (s :: (takeF f r).1, (takeF f r).2)
/-- One op more, of the last room. -/
def onto (acc : List (List O3)) (o : O3) : Option (List (List O3)) := match acc.getLast? with
  | none => none
  | some c => some (acc.dropLast ++ [c ++ [o]])
def roomsOf : List (List O3) → List (List UInt8) → Option (List (List O3))
  | acc, [] => some acc
  | acc, u :: r => if u = wRoom then roomsOf (acc ++ [[]]) r else match opRead (u ++ [10]) with
    | none => none
    | some o => match onto acc o with
      | none => none
      | some a => roomsOf a r
/-- Lines, without their ends, as a plan. -/
def planOf : List (List UInt8) → Option PD
  | [] => none
  | u :: r => match frameOf u with
    | none => none
    | some n => match roomsOf [] (takeF wireOf (takeF spanOf r).2).2 with
      | none => none
      | some cs => some ⟨cs, n, (takeF spanOf r).1, (takeF wireOf (takeF spanOf r).2).1⟩
/-- What is read, and the fault. -/
def planR (o : Option PD) : PD × Int := match o with
  | none => (PD.none, 2)
  | some p => if plchk p = 0 then (p, 0) else (PD.none, plchk p)
theorem planR_none : planR none = (PD.none, 2) := rfl
theorem planR_ok {p : PD} (h : plchk p = 0) : planR (some p) = (p, 0) := by
  show (if plchk p = 0 then (p, (0 : Int)) else (PD.none, plchk p)) = _
  rw [if_pos h]
theorem planR_bad {p : PD} (h : plchk p ≠ 0) : planR (some p) = (PD.none, plchk p) := by
  show (if plchk p = 0 then (p, (0 : Int)) else (PD.none, plchk p)) = _
  rw [if_neg h]
/-- A text as a plan, and the fault. -/
def planP (t : List UInt8) : PD × Int := if (cutB 10 t).getLast? = some [] then planR (planOf (cutB 10 t).dropLast) else (PD.none, 2)
theorem planP_open {t : List UInt8} {ps : List (List UInt8)} {q : List UInt8} (h : cutB 10 t = ps ++ [q]) (hq : q ≠ []) : planP t = (PD.none, 2) := by
  rw [planP, h, if_neg (by simpa using hq)]
theorem planP_shut {t : List UInt8} {ps : List (List UInt8)} (h : cutB 10 t = ps ++ [[]]) : planP t = planR (planOf ps) := by
  rw [planP, h, if_pos (by simp), List.dropLast_concat]
theorem takeF_yes {α : Type} {f : List UInt8 → Option α} {u : List UInt8} {s : α} (h : f u = some s) (r : List (List UInt8)) : takeF f (u :: r) = (s :: (takeF f r).1, (takeF f r).2) := by rw [takeF, h]
theorem takeF_no {α : Type} {f : List UInt8 → Option α} {u : List UInt8} (h : f u = none) (r : List (List UInt8)) : takeF f (u :: r) = ([], u :: r) := by rw [takeF, h]
end Go.Proofs.YtamnfadngbbaeacGreatDoor
namespace Go.Proofs.YtamnfadngbbaeacGreatDoor

theorem dec_mem (u : Nat) : ∀ x ∈ Lib.decDigits u, 48 ≤ x.toNat ∧ x.toNat ≤ 57 := by
  induction u using Nat.strongRecOn with
  | _ u ih =>
    intro x hx
    rw [Lib.decDigits] at hx
    split at hx
    · simp at hx; subst hx; simp; omega
    · rename_i h
      simp only [List.mem_append, List.mem_singleton] at hx
      rcases hx with hx | hx
      · exact ih (u / 10) (by omega) x hx
      · subst hx; simp; omega
theorem itoa_pos {z : Int} (h : 0 ≤ z) : Lib.itoa z = Lib.decDigits z.toNat := by unfold Lib.itoa; rw [if_neg (by omega)]
theorem itoa_mem {z : Int} (h : 0 ≤ z) : ∀ x ∈ Lib.itoa z, 48 ≤ x.toNat ∧ x.toNat ≤ 57 := by rw [itoa_pos h]; exact dec_mem _
theorem name_mem (n : Int) : ∀ x ∈ nameB n, 97 ≤ x.toNat ∧ x.toNat ≤ 122 := by
  unfold nameB
  repeat' split
  all_goals simp
theorem count_cut (c : UInt8) : ∀ (l cur : List UInt8), (cutGo c cur l).length = l.count c + 1
  | [], cur => by simp [cutGo]
  | x :: xs, cur => by
    by_cases h : x = c
    · rw [cutGo_hit h, List.length_cons, count_cut c xs, h, List.count_cons_self]
    · rw [cutGo_miss h, count_cut c xs, List.count_cons_of_ne h]
theorem count_none {c : UInt8} {l : List UInt8} (h : c ∉ l) : l.count c = 0 := List.count_eq_zero.2 h
theorem not_itoa {c : UInt8} {z : Int} (h : 0 ≤ z) (hc : c.toNat < 48) : c ∉ Lib.itoa z := fun hm => by have := itoa_mem h c hm; omega
theorem not_name {c : UInt8} {n : Int} (hc : c.toNat < 48) : c ∉ nameB n := fun hm => by have := name_mem n c hm; omega
theorem count_tail : ∀ (zs : List Int), (∀ z ∈ zs, 0 ≤ z) → (tail zs).count 32 = zs.length
  | [], _ => rfl
  | z :: zs, h => by
    have h1 := count_tail zs (fun y hy => h y (by simp [hy]))
    have h2 := count_none (not_itoa (c := 32) (h z (by simp)) (by decide))
    unfold tail at h1 ⊢
    rw [List.flatMap_cons, List.count_append, List.count_cons_self, h1, h2, List.length_cons]
    omega
theorem not_tail {c : UInt8} (hc : c.toNat < 48) (h32 : c ≠ 32) : ∀ (zs : List Int), (∀ z ∈ zs, 0 ≤ z) → c ∉ tail zs
  | [], _ => by simp [tail]
  | z :: zs, h => by
    have h1 := not_tail hc h32 zs (fun y hy => h y (by simp [hy]))
    have h2 := not_itoa (c := c) (h z (by simp)) hc
    unfold tail at h1 ⊢
    rw [List.flatMap_cons]
    simp only [List.mem_append, List.mem_cons, not_or]
    exact ⟨⟨h32, h2⟩, h1⟩
theorem cut_line {w : List UInt8} {zs : List Int} (hw : (10 : UInt8) ∉ w) (hz : ∀ z ∈ zs, 0 ≤ z) : cutB 10 (lineB w zs) = [w ++ tail zs, []] := by
  unfold lineB cutB
  have : (10 : UInt8) ∉ w ++ tail zs := by
    rw [List.mem_append, not_or]
    exact ⟨hw, not_tail (by decide) (by decide) zs hz⟩
  rw [cutGo_at 10 _ [] [] this]
  rfl
theorem cut_words {w : List UInt8} {zs : List Int} (hw : (32 : UInt8) ∉ w) (hz : ∀ z ∈ zs, 0 ≤ z) : (cutB 32 (w ++ tail zs)).length = zs.length + 1 := by
  unfold cutB
  rw [count_cut, List.count_append, count_none hw, count_tail zs hz]
  omega
theorem nums_pos {o : O3} (ha : 0 ≤ o.2.1) (hb : 0 ≤ o.2.2) : ∀ z ∈ numsB o, 0 ≤ z := by
  intro z hz
  unfold numsB at hz
  split at hz
  · simp at hz; omega
  · split at hz
    · simp at hz
    · simp at hz; omega
theorem nums_len (o : O3) : (numsB o).length = if o.1 = 7 then 1 else if o.1 = 10 ∨ o.1 = 11 then 0 else 2 := by
  unfold numsB
  repeat' split
  all_goals rfl
end Go.Proofs.YtamnfadngbbaeacGreatDoor
namespace Go.Proofs.YtamnfadngbbaeacGreatDoor

theorem digit_val {d : Nat} (h : d < 10) : Lib.digitVal (UInt8.ofNat (48 + d)) = some d := by
  have e : (UInt8.ofNat (48 + d)).toNat = 48 + d := by simp; omega
  unfold Lib.digitVal
  rw [e, if_pos (by omega)]
  congr 1
  omega
theorem decFrom_snoc (b : UInt8) (d : Nat) (hd : Lib.digitVal b = some d) : ∀ (l : List UInt8) (acc n : Nat), Lib.decFrom acc l = some n → Lib.decFrom acc (l ++ [b]) = some (n * 10 + d)
  | [], acc, n, h => by simp only [Lib.decFrom, Option.some.injEq] at h; subst h; simp [Lib.decFrom, hd]
  | x :: l, acc, n, h => by
    simp only [Lib.decFrom, List.cons_append] at h ⊢
    cases hx : Lib.digitVal x with
    | none => rw [hx] at h; cases h
    | some e => rw [hx] at h; simp only at h ⊢; exact decFrom_snoc b d hd l _ n h
theorem dec_from (u : Nat) : Lib.decFrom 0 (Lib.decDigits u) = some u := by
  induction u using Nat.strongRecOn with
  | _ u ih =>
    rw [Lib.decDigits]
    split
    · rename_i h
      rw [Lib.decFrom, digit_val h]
      simp [Lib.decFrom]
    · rename_i h
      rw [decFrom_snoc _ (u % 10) (digit_val (by omega)) _ 0 (u / 10) (ih (u / 10) (by omega))]
      congr 1
      omega
theorem dec_ne (u : Nat) : Lib.decDigits u ≠ [] := by
  rw [Lib.decDigits]
  split <;> simp
theorem atoi_dec (u : Nat) : Lib.atoi (Lib.decDigits u) = some (u : Int) := by
  cases h : Lib.decDigits u with
  | nil => exact absurd h (dec_ne u)
  | cons b r =>
    have hb := dec_mem u b (by rw [h]; simp)
    have h45 : (b == 45) = false := by simp; intro e; rw [e] at hb; simp at hb
    have h43 : (b == 43) = false := by simp; intro e; rw [e] at hb; simp at hb
    have hd := dec_from u
    rw [h] at hd
    simp [Lib.atoi, h45, h43, Lib.decNat, hd]
theorem dec_len {u : Nat} (h : u < 1000) : (Lib.decDigits u).length ≤ 3 := by
  by_cases h1 : u < 10
  · rw [Lib.decDigits_one h1]; simp
  · by_cases h2 : u < 100
    · rw [Lib.decDigits_two h1 h2]; simp
    · rw [Lib.decDigits, dif_neg h1, List.length_append]
      by_cases h3 : u / 10 < 10
      · rw [Lib.decDigits_one h3]; simp
      · rw [Lib.decDigits_two h3 (by omega)]; simp
theorem num_itoa {z : Int} (h0 : 0 ≤ z) (h1 : z ≤ 999) : numB (Lib.itoa z) = some z := by
  have e := itoa_pos h0
  refine numB_yes (by rw [e]; have := dec_len (u := z.toNat) (by omega); omega) ?_ h0 rfl
  rw [e, atoi_dec]
  congr 1
  omega
theorem nums_itoa : ∀ (zs : List Int), (∀ z ∈ zs, 0 ≤ z ∧ z ≤ 999) → numsOf (zs.map Lib.itoa) = some zs
  | [], _ => rfl
  | z :: zs, h => by
    have := nums_itoa zs (fun y hy => h y (by simp [hy]))
    simp [numsOf, num_itoa (h z (by simp)).1 (h z (by simp)).2, this]
theorem cut_tail (zs : List Int) (h : ∀ z ∈ zs, 0 ≤ z) : ∀ (cur : List UInt8), cutGo 32 cur (tail zs) = cur :: zs.map Lib.itoa := by
  induction zs with
  | nil => intro cur; rfl
  | cons z zs ih =>
    intro cur
    have e : tail (z :: zs) = 32 :: (Lib.itoa z ++ tail zs) := by simp [tail]
    rw [e, cutGo_hit rfl, cutGo_app 32 _ [] _ (not_itoa (h z (by simp)) (by decide)), List.nil_append, ih (fun y hy => h y (by simp [hy]))]
    rfl
theorem cut_body {p : List UInt8} (hp : (32 : UInt8) ∉ p) (zs : List Int) (h : ∀ z ∈ zs, 0 ≤ z) : cutB 32 (p ++ tail zs) = p :: zs.map Lib.itoa := by
  unfold cutB
  rw [cutGo_app 32 p [] _ hp, List.nil_append, cut_tail zs h]
theorem nums_small {o : O3} (ha : 0 ≤ o.2.1 ∧ o.2.1 ≤ 5) (hb : 0 ≤ o.2.2 ∧ o.2.2 ≤ 999) : ∀ z ∈ numsB o, 0 ≤ z ∧ z ≤ 999 := by
  intro z hz
  unfold numsB at hz
  split at hz
  · simp at hz; omega
  · split at hz
    · simp at hz
    · simp at hz; omega
theorem asm_nums (k : Nat) (a b : Int) (h1 : 1 ≤ k) (h2 : k ≤ 11) (h7 : k = 7 → a = 0) (h10 : k = 10 → a = 0 ∧ b = 0) (h11 : k = 11 → a = 0 ∧ b = 0) : asm k (numsB ((k : Int), a, b)) = some ((k : Int), a, b) := by
  have h : k = 1 ∨ k = 2 ∨ k = 3 ∨ k = 4 ∨ k = 5 ∨ k = 6 ∨ k = 7 ∨ k = 8 ∨ k = 9 ∨ k = 10 ∨ k = 11 := by omega
  rcases h with rfl | rfl | rfl | rfl | rfl | rfl | rfl | rfl | rfl | rfl | rfl
  case inr.inr.inr.inr.inr.inr.inl => obtain rfl := h7 rfl; rfl
  case inr.inr.inr.inr.inr.inr.inr.inr.inr.inl => obtain ⟨rfl, rfl⟩ := h10 rfl; rfl
  case inr.inr.inr.inr.inr.inr.inr.inr.inr.inr => obtain ⟨rfl, rfl⟩ := h11 rfl; rfl
  all_goals rfl
theorem opRead_opB {ops : Int} {o : O3} (hops : ops ≤ 1000) (h : ok3 ops o = true) : opRead (opB o) = some o := by
  have hr := ok3_range h
  have hs := ok3_small hops h
  obtain ⟨n, a, b⟩ := o
  simp only at hr hs
  obtain ⟨k, rfl⟩ : ∃ k : Nat, n = k := ⟨n.toNat, by omega⟩
  have hns := nums_small (o := ((k : Int), a, b)) ⟨hs.2.2.1, hs.2.2.2.1⟩ ⟨hs.2.2.2.2.1, hs.2.2.2.2.2⟩
  unfold opRead opB lineB
  rw [readB_snoc]
  unfold bodyB
  rw [cut_body (not_name (by decide)) _ (fun z hz => (hns z hz).1)]
  simp only
  rw [nums_itoa _ hns]
  simp only [Option.map_some]
  rw [named_hit k (by omega) (by omega)]
  refine asm_nums k a b (by omega) (by omega) (fun e => ?_) (fun e => ?_) (fun e => ?_)
  · subst e; have : bA ((7 : Nat) : Int) = 1 := rfl; omega
  · subst e
    have : bA ((10 : Nat) : Int) = 1 := rfl
    have : bB ((10 : Nat) : Int) ops = 1 := by simp [bB]
    omega
  · subst e
    have : bA ((11 : Nat) : Int) = 1 := rfl
    have : bB ((11 : Nat) : Int) ops = 1 := by simp [bB]
    omega
theorem lines_text (l : List O3) (h : ∀ o ∈ l, 0 ≤ o.2.1 ∧ 0 ≤ o.2.2) : linesB (textB l) = l.map opB := by
  induction l with
  | nil => rfl
  | cons o l ih =>
    have hno : (10 : UInt8) ∉ nameB o.1 ++ tail (numsB o) := by
      rw [List.mem_append, not_or]
      exact ⟨not_name (by decide), not_tail (by decide) (by decide) _ (nums_pos (h o (by simp)).1 (h o (by simp)).2)⟩
    have e : textB (o :: l) = (nameB o.1 ++ tail (numsB o)) ++ 10 :: textB l := by simp [textB, opB, lineB]
    rw [e, lines_at _ hno, ih (fun y hy => h y (by simp [hy]))]
    rfl
theorem ops_map {ops : Int} (hops : ops ≤ 1000) : ∀ (l : List O3), (∀ o ∈ l, ok3 ops o = true) → opsOf (l.map opB) = some l
  | [], _ => rfl
  | o :: l, h => by
    have := ops_map hops l (fun y hy => h y (by simp [hy]))
    simp [opsOf, opRead_opB hops (h o (by simp)), this]
/-- What is printed is read as it was. -/
theorem parse_print {l : List O3} (h : (chk l).2 = 0) : parseB (textB l) = (l, 0) := by
  obtain ⟨h0, h1, h2⟩ := chk_zero h
  refine parseB_ok ?_ h
  rw [lines_text l (fun o ho => by have := ok3_small (by omega) (h2 o ho); omega)]
  exact ops_map (by omega) l h2

theorem cut_join (c : UInt8) : ∀ (l cur : List UInt8) (p : List UInt8) (ps : List (List UInt8)), cutGo c cur l = p :: ps → cur ++ l = p ++ ps.flatMap (c :: ·)
  | [], cur, p, ps, h => by simp only [cutGo, List.cons.injEq] at h; obtain ⟨rfl, rfl⟩ := h; simp
  | x :: xs, cur, p, ps, h => by
    by_cases hx : x = c
    · rw [cutGo_hit hx] at h
      simp only [List.cons.injEq] at h
      obtain ⟨rfl, hps⟩ := h
      cases ps with
      | nil => have := (cutGo_len c xs []).1; rw [hps] at this; simp at this
      | cons q qs =>
        have := cut_join c xs [] q qs hps
        rw [List.nil_append] at this
        simp [hx, this]
    · rw [cutGo_miss hx] at h
      have := cut_join c xs (cur ++ [x]) p ps h
      simpa using this
theorem nums_back : ∀ (ps : List (List UInt8)) (ns : List Int), numsOf ps = some ns → ps.flatMap (32 :: ·) = tail ns
  | [], ns, h => by simp only [numsOf, Option.some.injEq] at h; subst h; rfl
  | p :: ps, ns, h => by
    simp only [numsOf] at h
    cases hp : numB p with
    | none => rw [hp] at h; cases h
    | some n =>
      rw [hp] at h
      cases hq : numsOf ps with
      | none => rw [hq] at h; cases h
      | some ms =>
        rw [hq] at h
        simp only [Option.map_some, Option.some.injEq] at h
        subst h
        have := nums_back ps ms hq
        rw [List.flatMap_cons, this, ← (numB_some hp).2.2]
        simp [tail]
theorem asm_back (k : Nat) (h1 : 1 ≤ k) (h2 : k ≤ 11) (ns : List Int) (o : O3) (h : asm k ns = some o) : o.1 = k ∧ numsB o = ns := by
  have hk : k = 1 ∨ k = 2 ∨ k = 3 ∨ k = 4 ∨ k = 5 ∨ k = 6 ∨ k = 7 ∨ k = 8 ∨ k = 9 ∨ k = 10 ∨ k = 11 := by omega
  rcases hk with rfl | rfl | rfl | rfl | rfl | rfl | rfl | rfl | rfl | rfl | rfl
  all_goals
    match ns, h with
    | [], h => revert h; simp [asm, asm2, stepN, pA, pB, bA, bB]; try (rintro rfl; decide)
    | [x], h => revert h; simp [asm, asm2, stepN, pA, pB, bA, bB]; try (rintro rfl; simp [numsB])
    | [x, y], h => revert h; simp [asm, asm2, stepN, pA, pB, bA, bB]; try (rintro rfl; simp [numsB])
    | x :: y :: z :: r, h => revert h; simp [asm, asm2, stepN, pA, pB, bA, bB]
theorem opRead_back {l : List UInt8} {o : O3} (h : opRead l = some o) : opB o = l := by
  unfold opRead at h
  cases hr : readB l with
  | none => rw [hr] at h; cases h
  | some pn =>
    obtain ⟨p, ns⟩ := pn
    rw [hr] at h
    simp only at h
    unfold readB at hr
    split at hr
    · rename_i hl
      obtain ⟨u, hu⟩ := List.getLast?_eq_some_iff.1 hl
      subst hu
      rw [List.dropLast_concat] at hr
      unfold bodyB at hr
      cases hc : cutB 32 u with
      | nil => rw [hc] at hr; cases hr
      | cons q qs =>
        rw [hc] at hr
        simp only at hr
        cases hq : numsOf qs with
        | none => rw [hq] at hr; cases hr
        | some ms =>
          rw [hq] at hr
          simp only [Option.map_some, Option.some.injEq, Prod.mk.injEq] at hr
          obtain ⟨rfl, rfl⟩ := hr
          have hj := cut_join 32 u [] _ _ hc
          rw [List.nil_append, nums_back _ _ hq] at hj
          rcases named_cases q with h0 | ⟨k, h1, h2, h3, h4⟩
          · rw [h0] at h; cases h
          · rw [h3] at h
            obtain ⟨e1, e2⟩ := asm_back k h1 h2 _ o h
            unfold opB lineB
            rw [e1, e2, ← h4, hj]
    · cases hr
theorem lines_join : ∀ (t cur : List UInt8), (linesGo cur t).flatten = cur ++ t
  | [], cur => by unfold linesGo; split <;> simp_all
  | x :: xs, cur => by
    unfold linesGo
    split
    · rename_i h; rw [List.flatten_cons, lines_join xs []]; simp [h]
    · rw [lines_join xs (cur ++ [x])]; simp
theorem ops_back : ∀ (ps : List (List UInt8)) (os : List O3), opsOf ps = some os → textB os = ps.flatten
  | [], os, h => by simp only [opsOf, Option.some.injEq] at h; subst h; rfl
  | p :: ps, os, h => by
    simp only [opsOf] at h
    cases hp : opRead p with
    | none => rw [hp] at h; cases h
    | some o =>
      rw [hp] at h
      cases hq : opsOf ps with
      | none => rw [hq] at h; cases h
      | some ms =>
        rw [hq] at h
        simp only [Option.map_some, Option.some.injEq] at h
        subst h
        have := ops_back ps ms hq
        rw [List.flatten_cons, ← this, ← opRead_back hp]
        simp [textB]
/-- What is read is printed as it was. -/
theorem print_parse {t : List UInt8} (h : (parseB t).2 = 0) : (chk (parseB t).1).2 = 0 ∧ textB (parseB t).1 = t := by
  cases ho : opsOf (linesB t) with
  | none => rw [parseB_bad ho] at h; cases h
  | some os =>
    by_cases h0 : (chk os).2 = 0
    · rw [parseB_ok ho h0]
      refine ⟨h0, ?_⟩
      rw [ops_back _ _ ho]
      exact lines_join t []
    · rw [parseB_err ho h0] at h
      exact absurd h h0
theorem ok3_more {m n : Int} {o : O3} (hmn : m ≤ n) (h : ok3 m o = true) : ok3 n o = true := by
  have hr := ok3_range h
  have hb : bB o.1 m ≤ bB o.1 n := by unfold bB; repeat' split <;> omega
  simp [ok3, fitsB]
  omega
theorem chk_more {l : List O3} {o : O3} (h : (chk l).2 = 0) (ho : (chk [o]).2 = 0) (hl : l.length < 20) : (chk (l ++ [o])).2 = 0 := by
  obtain ⟨h0, h1, h2⟩ := chk_zero h
  obtain ⟨_, _, h3⟩ := chk_zero ho
  rw [chk_zero_iff]
  refine ⟨by simp, by simp; omega, fun x hx => ?_⟩
  rw [List.mem_append] at hx
  rcases hx with hx | hx
  · exact ok3_more (by simp; omega) (h2 x hx)
  · simp at hx; subst hx; exact ok3_more (by simp; omega) (h3 x (by simp))
end Go.Proofs.YtamnfadngbbaeacGreatDoor
namespace Go.Proofs.YtamnfadngbbaeacGreatDoor

def isD (d : UInt8) : Prop := 48 ≤ d.toNat ∧ d.toNat ≤ 57
def valD (l : List UInt8) : Int := l.foldl (fun a d => a * 10 + (d.toNat : Int) - 48) 0
theorem valD_nil : valD [] = 0 := rfl
theorem valD_snoc (l : List UInt8) (d : UInt8) : valD (l ++ [d]) = valD l * 10 + (d.toNat : Int) - 48 := by simp [valD]
theorem u8_back {d : UInt8} (h : isD d) : UInt8.ofNat (48 + (d.toNat - 48)) = d := by
  have := h.1
  rw [show 48 + (d.toNat - 48) = d.toNat by omega]
  simp
theorem dec_step {q r : Nat} (hq : 1 ≤ q) (hr : r < 10) : Lib.decDigits (q * 10 + r) = Lib.decDigits q ++ [UInt8.ofNat (48 + r)] := by
  rw [Lib.decDigits, dif_neg (by omega)]
  rw [show (q * 10 + r) / 10 = q by omega, show (q * 10 + r) % 10 = r by omega]
theorem val_good : ∀ (k : Nat) (l : List UInt8), l.length = k → (∀ d ∈ l, isD d) → l ≠ [] → (l.head? = some 48 → l.length = 1) → 0 ≤ valD l ∧ Lib.decDigits (valD l).toNat = l ∧ (l.head? ≠ some 48 → 1 ≤ valD l)
  | 0, l, hl, _, hne, _ => absurd (List.eq_nil_of_length_eq_zero hl) hne
  | k + 1, l, hl, hd, hne, hh => by
    rcases List.eq_nil_or_concat l with rfl | ⟨m, d, rfl⟩
    · exact absurd rfl hne
    · have hdd : isD d := hd d (by simp)
      obtain ⟨h1, h2⟩ := hdd
      rw [List.concat_eq_append] at *
      rw [valD_snoc]
      by_cases hm : m = []
      · subst hm
        simp only [valD_nil, List.nil_append]
        refine ⟨by omega, ?_, ?_⟩
        · rw [show ((0 : Int) * 10 + (d.toNat : Int) - 48).toNat = d.toNat - 48 by omega, Lib.decDigits_one (by omega), u8_back ⟨h1, h2⟩]
        · intro hne48
          have : d.toNat ≠ 48 := fun e => hne48 (by simp; exact UInt8.toNat_inj.1 e)
          omega
      · have hhd : (m ++ [d]).head? = m.head? := by cases m with | nil => exact absurd rfl hm | cons x xs => rfl
        have hlm : m.length = k := by simpa using hl
        have hmp : 0 < m.length := List.length_pos_iff.2 hm
        have hm48 : m.head? ≠ some 48 := fun e => by
          have := hh (hhd.trans e)
          simp at this
          exact hm this
        obtain ⟨i1, i2, i3⟩ := val_good k m hlm (fun x hx => hd x (by simp [hx])) hm (fun e => absurd e hm48)
        have i4 := i3 hm48
        refine ⟨by omega, ?_, fun _ => by omega⟩
        have e : (valD m * 10 + (d.toNat : Int) - 48).toNat = (valD m).toNat * 10 + (d.toNat - 48) := by omega
        rw [e, dec_step (by omega) (by omega), i2, u8_back ⟨h1, h2⟩]
theorem dec_head (u : Nat) (h : (Lib.decDigits u).head? = some 48) : u = 0 := by
  induction u using Nat.strongRecOn with
  | _ u ih =>
    by_cases hu : u < 10
    · rw [Lib.decDigits_one hu] at h
      simp only [List.head?_cons, Option.some.injEq] at h
      have := congrArg UInt8.toNat h
      simp [UInt8.toNat_ofNat] at this
      omega
    · rw [Lib.decDigits, dif_neg hu] at h
      have hne := dec_ne (u / 10)
      have e : (Lib.decDigits (u / 10) ++ [UInt8.ofNat (48 + u % 10)]).head? = (Lib.decDigits (u / 10)).head? := by
        cases hx : Lib.decDigits (u / 10) with
        | nil => exact absurd hx hne
        | cons x xs => rfl
      have := ih (u / 10) (by omega) (e.symm.trans h)
      omega
theorem numB_form {l : List UInt8} {n : Int} (h : numB l = some n) : l.length ≤ 4 ∧ l = Lib.decDigits n.toNat := by
  obtain ⟨h1, h2, h3⟩ := numB_some h
  rw [itoa_pos h2] at h3
  exact ⟨h1, h3.symm⟩
theorem num_empty : numB [] = none := by
  cases h : numB [] with
  | none => rfl
  | some n => exact absurd (numB_form h).2.symm (dec_ne _)
theorem num_zero {l : List UInt8} (h0 : l.head? = some 48) (h1 : 1 < l.length) : numB l = none := by
  cases h : numB l with
  | none => rfl
  | some n =>
    have hl := (numB_form h).2
    have hz := dec_head n.toNat (by rw [← hl]; exact h0)
    rw [hz] at hl
    rw [hl, Lib.decDigits_one (by omega)] at h1
    simp at h1
theorem num_nodigit {l : List UInt8} {d : UInt8} (hm : d ∈ l) (hd : d.toNat < 48 ∨ 57 < d.toNat) : numB l = none := by
  cases h : numB l with
  | none => rfl
  | some n =>
    have hl := (numB_form h).2
    rw [hl] at hm
    have := dec_mem _ d hm
    omega
theorem num_good {l : List UInt8} (hd : ∀ d ∈ l, isD d) (hne : l ≠ []) (h4 : l.length ≤ 4) (hh : l.head? = some 48 → l.length = 1) : numB l = some (valD l) := by
  obtain ⟨h1, h2, _⟩ := val_good l.length l rfl hd hne hh
  have ha := atoi_dec (valD l).toNat
  rw [h2, show (((valD l).toNat : Nat) : Int) = valD l by omega] at ha
  exact numB_yes h4 ha h1 (by rw [itoa_pos h1]; exact h2)
theorem valD_le : ∀ (l : List UInt8), (∀ d ∈ l, isD d) → l.length ≤ 4 → 0 ≤ valD l ∧ valD l ≤ 9999
  | [], _, _ => by simp [valD_nil]
  | [a], h, _ => by have := h a (by simp); unfold isD at this; simp only [valD, List.foldl]; omega
  | [a, b], h, _ => by have := h a (by simp); have := h b (by simp); unfold isD at *; simp only [valD, List.foldl]; omega
  | [a, b, c], h, _ => by have := h a (by simp); have := h b (by simp); have := h c (by simp); unfold isD at *; simp only [valD, List.foldl]; omega
  | [a, b, c, d], h, _ => by have := h a (by simp); have := h b (by simp); have := h c (by simp); have := h d (by simp); unfold isD at *; simp only [valD, List.foldl]; omega
  | a :: b :: c :: d :: e :: l, _, h => by simp at h
end Go.Proofs.YtamnfadngbbaeacGreatDoor
namespace Go.Proofs.YtamnfadngbbaeacGreatDoor

theorem body_tail {w : List UInt8} (hw : (32 : UInt8) ∉ w) {zs : List Int} (h : ∀ z ∈ zs, 0 ≤ z ∧ z ≤ 999) : bodyB (w ++ tail zs) = some (w, zs) := by
  unfold bodyB
  rw [cut_body hw zs (fun z hz => (h z hz).1)]
  simp only
  rw [nums_itoa zs h]
  rfl
theorem body_back {u w : List UInt8} {ns : List Int} (h : bodyB u = some (w, ns)) : w ++ tail ns = u := by
  unfold bodyB at h
  cases hc : cutB 32 u with
  | nil => rw [hc] at h; cases h
  | cons q qs =>
    rw [hc] at h
    simp only at h
    cases hq : numsOf qs with
    | none => rw [hq] at h; cases h
    | some ms =>
      rw [hq] at h
      simp only [Option.map_some, Option.some.injEq, Prod.mk.injEq] at h
      obtain ⟨rfl, rfl⟩ := h
      have hj := cut_join 32 u [] _ _ hc
      rw [List.nil_append, nums_back _ _ hq] at hj
      exact hj.symm
theorem spanOf_back {u : List UInt8} {s : S3} (h : spanOf u = some s) : spanL s = u := by
  unfold spanOf at h
  split at h
  · rename_i p a b c hb
    split at h
    · rename_i hp
      simp only [Option.some.injEq] at h
      subst h
      subst hp
      exact body_back hb
    · cases h
  · cases h
theorem wireOf_back {u : List UInt8} {s : W4} (h : wireOf u = some s) : wireL s = u := by
  unfold wireOf at h
  split at h
  · rename_i p a b c d hb
    split at h
    · rename_i hp
      simp only [Option.some.injEq] at h
      subst h
      subst hp
      exact body_back hb
    · cases h
  · cases h
theorem frameOf_back {u : List UInt8} {n : Int} (h : frameOf u = some n) : frameL n = u := by
  unfold frameOf at h
  split at h
  · rename_i p a hb
    split at h
    · rename_i hp
      simp only [Option.some.injEq] at h
      subst h
      subst hp
      exact body_back hb
    · cases h
  · cases h
theorem takeF_back {α : Type} {f : List UInt8 → Option α} {g : α → List UInt8} (h : ∀ u s, f u = some s → g s = u) : ∀ r, (takeF f r).1.map g ++ (takeF f r).2 = r
  | [] => rfl
  | u :: r => by
    cases hu : f u with
    | none => rw [takeF_no hu]; rfl
    | some s =>
      rw [takeF_yes hu]
      simp only [List.map_cons, List.cons_append, h u s hu, takeF_back h r]
theorem onto_back {acc a : List (List O3)} {o : O3} (h : onto acc o = some a) : a.flatMap roomL = acc.flatMap roomL ++ [opL o] := by
  unfold onto at h
  split at h
  · cases h
  · rename_i c hc
    simp only [Option.some.injEq] at h
    subst h
    obtain ⟨u, hu⟩ := List.getLast?_eq_some_iff.1 hc
    subst hu
    rw [List.dropLast_concat]
    simp [roomL]
theorem opRead_line {u : List UInt8} {o : O3} (h : opRead (u ++ [10]) = some o) : opL o = u := by
  have := opRead_back h
  have e : opB o = opL o ++ [10] := rfl
  rw [e] at this
  exact List.append_cancel_right this
theorem roomsOf_back : ∀ (r : List (List UInt8)) (acc cs : List (List O3)), roomsOf acc r = some cs → cs.flatMap roomL = acc.flatMap roomL ++ r
  | [], acc, cs, h => by simp only [roomsOf, Option.some.injEq] at h; subst h; simp
  | u :: r, acc, cs, h => by
    rw [roomsOf] at h
    split at h
    · rename_i hu
      rw [roomsOf_back r _ cs h, hu]
      simp [roomL]
    · split at h
      · cases h
      · rename_i o ho
        split at h
        · cases h
        · rename_i a ha
          rw [roomsOf_back r a cs h, onto_back ha, opRead_line ho]
          simp
theorem planOf_back {ps : List (List UInt8)} {p : PD} (h : planOf ps = some p) : planL p = ps := by
  cases ps with
  | nil => cases h
  | cons u r =>
    rw [planOf] at h
    split at h
    · cases h
    · rename_i n hn
      split at h
      · cases h
      · rename_i cs hcs
        simp only [Option.some.injEq] at h
        subst h
        have e1 := takeF_back (fun _ _ h => spanOf_back h) r
        have e2 := takeF_back (fun _ _ h => wireOf_back h) (takeF spanOf r).2
        have e3 := roomsOf_back _ _ _ hcs
        simp only [List.flatMap_nil, List.nil_append] at e3
        unfold planL
        simp only
        rw [e3, e2, e1, frameOf_back hn]
theorem cut_end {t : List UInt8} {ps : List (List UInt8)} (h : cutB 10 t = ps ++ [[]]) : endL ps = t := by
  obtain ⟨ps', q, h1, _, h3⟩ := cut_lines t [] (by simp)
  have e : ps' ++ [q] = ps ++ [[]] := h1.symm.trans h
  obtain ⟨rfl, e2⟩ := List.append_inj' e rfl
  simp only [List.cons.injEq, and_true] at e2
  subst e2
  rw [if_pos rfl, List.append_nil] at h3
  have hj := lines_join t []
  rw [h3, List.nil_append] at hj
  rw [← hj, endL, List.flatMap_def]
/-- What is read is printed as it was. -/
theorem plan_back {t : List UInt8} (h : (planP t).2 = 0) : plchk (planP t).1 = 0 ∧ planB (planP t).1 = t := by
  unfold planP at h ⊢
  split at h
  · rename_i hq
    rw [if_pos hq]
    obtain ⟨ps, hps⟩ := List.getLast?_eq_some_iff.1 hq
    rw [hps, List.dropLast_concat] at h ⊢
    cases ho : planOf ps with
    | none => rw [ho, planR_none] at h; cases h
    | some p =>
      rw [ho] at h
      by_cases hk : plchk p = 0
      · rw [planR_ok hk]
        refine ⟨hk, ?_⟩
        simp only
        unfold planB
        rw [planOf_back ho]
        exact cut_end hps
      · rw [planR_bad hk] at h
        exact absurd h hk
  · cases h

theorem cut_endL : ∀ (ls : List (List UInt8)), (∀ u ∈ ls, (10 : UInt8) ∉ u) → cutB 10 (endL ls) = ls ++ [[]]
  | [], _ => rfl
  | u :: ls, h => by
    have e : endL (u :: ls) = u ++ 10 :: endL ls := by simp [endL]
    rw [e]
    unfold cutB
    rw [cutGo_at 10 u [] _ (h u (by simp)), List.nil_append, cut_endL ls (fun v hv => h v (by simp [hv]))]
    rfl
theorem not_word {w : List UInt8} {zs : List Int} (hw : (10 : UInt8) ∉ w) (h : ∀ z ∈ zs, 0 ≤ z) : (10 : UInt8) ∉ w ++ tail zs := by
  rw [List.mem_append, not_or]
  exact ⟨hw, not_tail (by decide) (by decide) zs h⟩
/-- What a plan that is right has for numbers. -/
structure Small (p : PD) : Prop where
  ticks : 0 ≤ p.ticks ∧ p.ticks ≤ 999
  spans : ∀ s ∈ p.spans, ∀ z ∈ [s.1, s.2.1, s.2.2], 0 ≤ z ∧ z ≤ 999
  wires : ∀ x ∈ p.wires, ∀ z ∈ [x.1, x.2.1, x.2.2.1, x.2.2.2], 0 ≤ z ∧ z ≤ 999
  code : ∀ c ∈ p.code, (chk c).2 = 0
theorem plan_small {p : PD} (h : plchk p = 0) : Small p := by
  obtain ⟨_, _, hf, hw, _, _, hc, _⟩ := plchk_zero h
  obtain ⟨f1, f2, _, f3, _⟩ := fchk_zero hf
  refine ⟨by omega, fun s hs z hz => ?_, fun x hx z hz => ?_, codesE_zero hc⟩
  · have := f3 s hs
    simp only [spOk, decide_eq_true_eq] at this
    simp only [List.mem_cons, List.not_mem_nil, or_false] at hz
    omega
  · have h0 := (wschk_ok hw).2 x hx
    have h1 := w4_rooms h0
    have h2 := wchk_kind h0
    simp only [List.mem_cons, List.not_mem_nil, or_false] at hz
    omega
theorem takeF_map {α : Type} {f : List UInt8 → Option α} {g : α → List UInt8} : ∀ (l : List α) (r : List (List UInt8)), (∀ x ∈ l, f (g x) = some x) → takeF f r = ([], r) → takeF f (l.map g ++ r) = (l, r)
  | [], r, _, h => h
  | x :: l, r, hx, h => by
    rw [List.map_cons, List.cons_append, takeF_yes (hx x (by simp)), takeF_map l r (fun y hy => hx y (by simp [hy])) h]
theorem spanOf_L {s : S3} (h : ∀ z ∈ [s.1, s.2.1, s.2.2], 0 ≤ z ∧ z ≤ 999) : spanOf (spanL s) = some s := by
  unfold spanOf spanL
  rw [body_tail (by decide) h]
  rfl
theorem wireOf_L {s : W4} (h : ∀ z ∈ [s.1, s.2.1, s.2.2.1, s.2.2.2], 0 ≤ z ∧ z ≤ 999) : wireOf (wireL s) = some s := by
  unfold wireOf wireL
  rw [body_tail (by decide) h]
  rfl
theorem frameOf_L {n : Int} (h : 0 ≤ n ∧ n ≤ 999) : frameOf (frameL n) = some n := by
  unfold frameOf frameL
  rw [body_tail (by decide) (fun z hz => by simp at hz; subst hz; exact h)]
  rfl
theorem spanOf_wire {s : W4} (h : ∀ z ∈ [s.1, s.2.1, s.2.2.1, s.2.2.2], 0 ≤ z ∧ z ≤ 999) : spanOf (wireL s) = none := by
  unfold spanOf wireL
  rw [body_tail (by decide) h]
theorem room_body : bodyB wRoom = some (wRoom, []) := bodyB_no (by decide)
theorem spanOf_room : spanOf wRoom = none := by unfold spanOf; rw [room_body]
theorem wireOf_room : wireOf wRoom = none := by unfold wireOf; rw [room_body]
theorem opRead_room : opRead (wRoom ++ [10]) = none := by
  unfold opRead
  rw [readB_snoc, room_body]
  rfl
theorem opRead_L {ops : Int} {o : O3} (hops : ops ≤ 1000) (h : ok3 ops o = true) : opRead (opL o ++ [10]) = some o := opRead_opB hops h
theorem opL_room {ops : Int} {o : O3} (hops : ops ≤ 1000) (h : ok3 ops o = true) : opL o ≠ wRoom := fun e => by
  have := opRead_L hops h
  rw [e, opRead_room] at this
  cases this
theorem roomsOf_ops {ops : Int} (hops : ops ≤ 1000) (acc : List (List O3)) (r : List (List UInt8)) : ∀ (d c : List O3), (∀ o ∈ d, ok3 ops o = true) → roomsOf (acc ++ [c]) (d.map opL ++ r) = roomsOf (acc ++ [c ++ d]) r
  | [], c, _ => by simp
  | o :: d, c, h => by
    have ho := h o (by simp)
    have e : onto (acc ++ [c]) o = some (acc ++ [c ++ [o]]) := by simp [onto]
    rw [List.map_cons, List.cons_append, roomsOf, if_neg (opL_room hops ho), opRead_L hops ho]
    simp only
    rw [e]
    simp only
    rw [roomsOf_ops hops acc r d (c ++ [o]) (fun x hx => h x (by simp [hx]))]
    simp
theorem roomsOf_L : ∀ (cs acc : List (List O3)), (∀ c ∈ cs, (chk c).2 = 0) → roomsOf acc (cs.flatMap roomL) = some (acc ++ cs)
  | [], acc, _ => by simp [roomsOf]
  | c :: cs, acc, h => by
    obtain ⟨_, h1, h2⟩ := chk_zero (h c (by simp))
    have e : (c :: cs).flatMap roomL = wRoom :: (c.map opL ++ cs.flatMap roomL) := by simp [roomL]
    rw [e, roomsOf, if_pos rfl, roomsOf_ops (ops := c.length) (by omega) acc _ c [] h2, List.nil_append, roomsOf_L cs (acc ++ [c]) (fun x hx => h x (by simp [hx]))]
    simp
theorem planOf_L {p : PD} (h : Small p) (h0 : p.code.length ≠ 0) : planOf (planL p) = some p := by
  obtain ⟨c, cs, hc⟩ : ∃ c cs, p.code = c :: cs := by
    cases hp : p.code with
    | nil => rw [hp] at h0; exact absurd rfl h0
    | cons c cs => exact ⟨c, cs, rfl⟩
  have er : p.code.flatMap roomL = wRoom :: (c.map opL ++ cs.flatMap roomL) := by rw [hc]; simp [roomL]
  have e1 : takeF wireOf (p.code.flatMap roomL) = ([], p.code.flatMap roomL) := by rw [er]; exact takeF_no wireOf_room _
  have e2 := takeF_map p.wires (p.code.flatMap roomL) (fun x hx => wireOf_L (h.wires x hx)) e1
  have e3 : takeF spanOf (p.wires.map wireL ++ p.code.flatMap roomL) = ([], p.wires.map wireL ++ p.code.flatMap roomL) := by
    cases hw : p.wires with
    | nil => rw [List.map_nil, List.nil_append, er]; exact takeF_no spanOf_room _
    | cons x xs => rw [List.map_cons, List.cons_append]; exact takeF_no (spanOf_wire (h.wires x (by rw [hw]; simp))) _
  have e4 := takeF_map p.spans _ (fun x hx => spanOf_L (h.spans x hx)) e3
  have e5 := roomsOf_L p.code [] h.code
  unfold planL
  rw [planOf, frameOf_L h.ticks]
  simp only
  rw [e4]
  simp only
  rw [e2]
  simp only
  rw [e5, List.nil_append]
theorem plan_lines {p : PD} (h : Small p) : ∀ u ∈ planL p, (10 : UInt8) ∉ u := by
  intro u hu
  simp only [planL, List.mem_cons, List.mem_append, List.mem_map, List.mem_flatMap] at hu
  rcases hu with rfl | ⟨s, hs, rfl⟩ | ⟨x, hx, rfl⟩ | ⟨c, hc, hu⟩
  · exact not_word (by decide) (fun z hz => by simp at hz; subst hz; exact h.ticks.1)
  · exact not_word (by decide) (fun z hz => (h.spans s hs z hz).1)
  · exact not_word (by decide) (fun z hz => (h.wires x hx z hz).1)
  · simp only [roomL, List.mem_cons, List.mem_map] at hu
    rcases hu with rfl | ⟨o, ho, rfl⟩
    · decide
    · obtain ⟨_, h1, h2⟩ := chk_zero (h.code c hc)
      have := ok3_small (by omega) (h2 o ho)
      exact not_word (not_name (by decide)) (nums_pos (by omega) (by omega))
/-- What is printed is read as it was. -/
theorem plan_read {p : PD} (h : plchk p = 0) : planP (planB p) = (p, 0) := by
  have hs := plan_small h
  have hc := cut_endL (planL p) (plan_lines hs)
  rw [planP_shut (t := planB p) hc, planOf_L hs (plchk_zero h).2.1, planR_ok h]
end Go.Proofs.YtamnfadngbbaeacGreatDoor
