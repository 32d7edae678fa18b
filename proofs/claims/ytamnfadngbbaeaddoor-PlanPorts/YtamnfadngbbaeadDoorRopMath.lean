/-
  A line, and a text, read by their pieces: plain mathematics.
-/
import Derived.Test.YtamnfadngbbaeadDoorParseMath
namespace Go.Proofs.YtamnfadngbbaeadDoor

/-- A line as an op, by its word and its other pieces. -/
def rop (p : List UInt8) (ps : List (List UInt8)) : Option O3 := match numsOf ps with
  | none => none
  | some ns => asm (namedB p) ns
theorem opRead_cut {u p : List UInt8} {ps : List (List UInt8)} (h : cutB 32 u = p :: ps) : opRead (u ++ [10]) = rop p ps := by
  unfold opRead rop
  rw [readB_snoc]
  unfold bodyB
  rw [h]
  simp only
  cases numsOf ps <;> rfl
theorem rop_nums {p : List UInt8} {ps : List (List UInt8)} (h : numsOf ps = none) : rop p ps = none := by unfold rop; rw [h]
theorem rop_hit {p : List UInt8} {ps : List (List UInt8)} {ns : List Int} (k : Nat) (h1 : 1 ≤ k) (h2 : k ≤ 11) (h : numsOf ps = some ns) (hp : p = nameB k) : rop p ps = asm k ns := by
  unfold rop
  rw [h]
  simp only
  rw [hp, named_hit k h1 h2]
theorem rop_end {p : List UInt8} {ps : List (List UInt8)} {ns : List Int} (hn : numsOf ps = some ns) (h : ∀ k : Nat, 1 ≤ k → k ≤ 11 → p = nameB k → asm k ns = none) : rop p ps = none := by
  rcases named_cases p with h0 | ⟨k, h1, h2, h3, h4⟩
  · unfold rop; rw [hn]; simp only; rw [h0]; rfl
  · rw [rop_hit k h1 h2 hn h4]
    exact h k h1 h2 h4
def asmJ : List Int → Option O3
  | [x] => some (7, 0, x)
  | _ => none
def asmR (k : Int) : List Int → Option O3
  | [] => some (k, 0, 0)
  | _ => none
def asmT (k : Int) : List Int → Option O3
  | [x, y] => some (k, x, y)
  | _ => none
theorem asmJ_no {ns : List Int} (h : ns.length ≠ 1) : asmJ ns = none := by
  match ns, h with
  | [], _ => rfl
  | [x], h => exact absurd rfl h
  | x :: y :: r, _ => rfl
theorem asmR_no {k : Int} {ns : List Int} (h : ns.length ≠ 0) : asmR k ns = none := by
  match ns, h with
  | [], h => exact absurd rfl h
  | x :: r, _ => rfl
theorem asmT_no {k : Int} {ns : List Int} (h : ns.length ≠ 2) : asmT k ns = none := by
  match ns, h with
  | [], _ => rfl
  | [x], _ => rfl
  | [x, y], h => exact absurd rfl h
  | x :: y :: z :: r, _ => rfl
theorem asm_jump (ns : List Int) : asm 7 ns = asmJ ns := by
  match ns with
  | [] => rfl
  | [x] => rfl
  | x :: y :: r => rfl
theorem asm_rest (k : Nat) (hk : k = 10 ∨ k = 11) (ns : List Int) : asm k ns = asmR k ns := by
  rcases hk with rfl | rfl
  all_goals
    match ns with
    | [] => rfl
    | x :: r => rfl
theorem asm_two (k : Nat) (h1 : 1 ≤ k) (h2 : k < 10) (h7 : k ≠ 7) (ns : List Int) : asm k ns = asmT k ns := by
  have h : k = 1 ∨ k = 2 ∨ k = 3 ∨ k = 4 ∨ k = 5 ∨ k = 6 ∨ k = 8 ∨ k = 9 := by omega
  clear h1 h2 h7
  rcases h with rfl | rfl | rfl | rfl | rfl | rfl | rfl | rfl
  all_goals
    match ns with
    | [] => rfl
    | [x] => rfl
    | [x, y] => rfl
    | x :: y :: z :: r => rfl

theorem two_of {ns : List Int} (h : ns.length = 2) : ∃ x y, ns = [x, y] := by
  match ns, h with
  | [x, y], _ => exact ⟨x, y, rfl⟩
/-- The last piece has no newline; the lines are the others, each with one, and it. -/
theorem cut_lines : ∀ (l cur : List UInt8), (10 : UInt8) ∉ cur → ∃ ps q, cutGo 10 cur l = ps ++ [q] ∧ (10 : UInt8) ∉ q ∧ linesGo cur l = ps.map (· ++ [10]) ++ (if q = [] then [] else [q])
  | [], cur, h => ⟨[], cur, rfl, h, by simp [linesGo]⟩
  | x :: xs, cur, h => by
    by_cases hx : x = 10
    · obtain ⟨ps, q, h1, h2, h3⟩ := cut_lines xs [] (by simp)
      refine ⟨cur :: ps, q, ?_, h2, ?_⟩
      · rw [cutGo_hit hx, h1]; rfl
      · rw [linesGo, if_pos hx, h3]; rfl
    · obtain ⟨ps, q, h1, h2, h3⟩ := cut_lines xs (cur ++ [x]) (by simp [h]; exact fun e => hx e.symm)
      refine ⟨ps, q, ?_, h2, ?_⟩
      · rw [cutGo_miss hx, h1]
      · rw [linesGo, if_neg hx, h3]
theorem opRead_open {q : List UInt8} (h : (10 : UInt8) ∉ q) : opRead q = none := by
  unfold opRead
  rw [readB_none fun u e => h (by rw [e]; simp)]
/-- A text cut at its newlines: what it is as code. -/
theorem parse_cut (t : List UInt8) : ∃ ps q, cutB 10 t = ps ++ [q] ∧ (q ≠ [] → parseB t = ([], 2)) ∧ (q = [] → linesB t = ps.map (· ++ [10])) := by
  obtain ⟨ps, q, h1, h2, h3⟩ := cut_lines t [] (by simp)
  refine ⟨ps, q, h1, fun hq => ?_, fun hq => ?_⟩
  · apply parseB_bad
    unfold linesB
    rw [h3, if_neg hq]
    exact opsOf_bad (opRead_open h2)
  · unfold linesB
    rw [h3, if_pos hq]
    simp
end Go.Proofs.YtamnfadngbbaeadDoor
