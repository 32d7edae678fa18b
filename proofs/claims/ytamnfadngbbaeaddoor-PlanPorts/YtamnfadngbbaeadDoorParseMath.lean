/-
  A text as code: plain mathematics.
-/
import Derived.Test.YtamnfadngbbaeadDoorReadMath
import Derived.Test.YtamnfadngbbaeadDoorSeqMath
namespace Go.Proofs.YtamnfadngbbaeadDoor

def opsOf : List (List UInt8) → Option (List O3)
  | [] => some []
  | p :: ps => match opRead p with
    | none => none
    | some n => (opsOf ps).map (n :: ·)
theorem opsOf_snoc (ps : List (List UInt8)) (ns : List O3) (p : List UInt8) (n : O3) (h : opsOf ps = some ns) (hn : opRead p = some n) : opsOf (ps ++ [p]) = some (ns ++ [n]) := by
  induction ps generalizing ns with
  | nil => simp only [opsOf, Option.some.injEq] at h; subst h; simp [opsOf, hn]
  | cons q qs ih =>
    simp only [opsOf] at h
    cases hq : opRead q with
    | none => rw [hq] at h; cases h
    | some m =>
      rw [hq] at h
      cases hqs : opsOf qs with
      | none => rw [hqs] at h; cases h
      | some ms =>
        rw [hqs] at h
        simp only [Option.map_some, Option.some.injEq] at h
        subst h
        simp [opsOf, hq, ih ms hqs]
theorem opsOf_bad {ps qs : List (List UInt8)} {p : List UInt8} (hn : opRead p = none) : opsOf (ps ++ p :: qs) = none := by
  induction ps with
  | nil => simp [opsOf, hn]
  | cons q rs ih =>
    simp only [List.cons_append, opsOf]
    cases opRead q with
    | none => rfl
    | some m => simp [ih]
/-- A text as code, and the fault. -/
def parseB (t : List UInt8) : List O3 × Int := match opsOf (linesB t) with
  | none => ([], 2)
  | some os => if (chk os).2 = 0 then (os, 0) else ([], (chk os).2)
theorem chk_take (os : List O3) : (chk (os.take 21)).2 = (chk os).2 := by
  by_cases h : os.length ≤ 21
  · rw [List.take_of_length_le h]
  · rw [chk_long (l := os) (by omega), chk_long (l := os.take 21) (by simp; omega)]
theorem take_ok {os : List O3} (h : (chk os).2 = 0) : os.take 21 = os := by
  have := chk_zero h
  exact List.take_of_length_le (by omega)
theorem parseB_bad {t : List UInt8} (h : opsOf (linesB t) = none) : parseB t = ([], 2) := by unfold parseB; rw [h]
theorem parseB_ok {t : List UInt8} {os : List O3} (h : opsOf (linesB t) = some os) (h0 : (chk os).2 = 0) : parseB t = (os, 0) := by unfold parseB; rw [h]; simp only; rw [if_pos h0]
theorem parseB_err {t : List UInt8} {os : List O3} (h : opsOf (linesB t) = some os) (h0 : (chk os).2 ≠ 0) : parseB t = ([], (chk os).2) := by unfold parseB; rw [h]; simp only; rw [if_neg h0]
theorem take_snoc_lt {os : List O3} {o : O3} (h : os.length ≤ 20) : (os ++ [o]).take 21 = os.take 21 ++ [o] := by
  rw [List.take_of_length_le (by simp; omega), List.take_of_length_le (by omega)]
theorem take_snoc_ge {os : List O3} {o : O3} (h : 20 < os.length) : (os ++ [o]).take 21 = os.take 21 := by
  rw [List.take_append_of_le_length (by omega)]
/-- The cells of ops. -/
def cells3 (l : List O3) : List Value := l.flatMap fun o => [.int .i64 o.1, .int .i64 o.2.1, .int .i64 o.2.2]
theorem cells3_snoc (l : List O3) (o : O3) : cells3 (l ++ [o]) = cells3 l ++ [.int .i64 o.1, .int .i64 o.2.1, .int .i64 o.2.2] := by simp [cells3]
theorem cells3_at : ∀ (l : List O3) (i : Nat) (o : O3), l[i]? = some o → (cells3 l)[i * 3]? = some (.int .i64 o.1) ∧ (cells3 l)[i * 3 + 1]? = some (.int .i64 o.2.1) ∧ (cells3 l)[i * 3 + 2]? = some (.int .i64 o.2.2)
  | [], i, o, h => by simp at h
  | x :: l, 0, o, h => by simp at h; subst h; simp [cells3]
  | x :: l, i + 1, o, h => by
    have := cells3_at l i o (by simpa using h)
    have e : cells3 (x :: l) = .int .i64 x.1 :: .int .i64 x.2.1 :: .int .i64 x.2.2 :: cells3 l := by simp [cells3]
    rw [e, show (i + 1) * 3 = i * 3 + 3 by omega]
    simpa using this
end Go.Proofs.YtamnfadngbbaeadDoor
