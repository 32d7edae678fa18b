/-
  Code is read as it was: plain mathematics.
-/
import Derived.Test.YtfneffmiignapaaGreatDoorParseMath
import Derived.Test.YtfneffmiignapaaGreatDoorNamesMath
namespace Go.Proofs.YtfneffmiignapaaGreatDoor

theorem digit_val {d : Nat} (h : d < 10) : Lib.digitVal (UInt8.ofNat (48 + d)) = some d := by
  have e : (UInt8.ofNat (48 + d)).toNat = 48 + d := by simp; omega
  unfold Lib.digitVal
  rw [e, if_pos (by omega)]
  congr 1
  omega
theorem decFrom_snoc (b : UInt8) (d : Nat) (hd : Lib.digitVal b = some d) : ∀ (l : List UInt8) (acc n : Nat), Lib.decFrom acc l = some n → Lib.decFrom acc (l ++ [b]) = some (n * 10 + d)
  | [], acc, n, h => by simp only [Lib.decFrom, Option.some.injEq] at h; subst h; simp [Lib.decFrom, hd]
  | x :: l, acc, n, h => by
    simp only [Lib.decFrom, List.cons_append] at h ⊢
    cases hx : Lib.digitVal x with
    | none => rw [hx] at h; cases h
    | some e => rw [hx] at h; simp only at h ⊢; exact decFrom_snoc b d hd l _ n h
theorem dec_from (u : Nat) : Lib.decFrom 0 (Lib.decDigits u) = some u := by
  induction u using Nat.strongRecOn with
  | _ u ih =>
    rw [Lib.decDigits]
    split
    · rename_i h
      rw [Lib.decFrom, digit_val h]
      simp [Lib.decFrom]
    · rename_i h
      rw [decFrom_snoc _ (u % 10) (digit_val (by omega)) _ 0 (u / 10) (ih (u / 10) (by omega))]
      congr 1
      omega
theorem dec_ne (u : Nat) : Lib.decDigits u ≠ [] := by
  rw [Lib.decDigits]
  split <;> simp
theorem atoi_dec (u : Nat) : Lib.atoi (Lib.decDigits u) = some (u : Int) := by
  cases h : Lib.decDigits u with
  | nil => exact absurd h (dec_ne u)
  | cons b r =>
    have hb := dec_mem u b (by rw [h]; simp)
    have h45 : (b == 45) = false := by simp; intro e; rw [e] at hb; simp at hb
    have h43 : (b == 43) = false := by simp; intro e; rw [e] at hb; simp at hb
    have hd := dec_from u
    rw [h] at hd
    simp [Lib.atoi, h45, h43, Lib.decNat, hd]
theorem dec_len {u : Nat} (h : u < 1000) : (Lib.decDigits u).length ≤ 3 := by
  by_cases h1 : u < 10
  · rw [Lib.decDigits_one h1]; simp
  · by_cases h2 : u < 100
    · rw [Lib.decDigits_two h1 h2]; simp
    · rw [Lib.decDigits, dif_neg h1, List.length_append]
      by_cases h3 : u / 10 < 10
      · rw [Lib.decDigits_one h3]; simp
      · rw [Lib.decDigits_two h3 (by omega)]; simp
theorem num_itoa {z : Int} (h0 : 0 ≤ z) (h1 : z ≤ 999) : numB (Lib.itoa z) = some z := by
  have e := itoa_pos h0
  refine numB_yes (by rw [e]; have := dec_len (u := z.toNat) (by omega); omega) ?_ h0 rfl
  rw [e, atoi_dec]
  congr 1
  omega
theorem nums_itoa : ∀ (zs : List Int), (∀ z ∈ zs, 0 ≤ z ∧ z ≤ 999) → numsOf (zs.map Lib.itoa) = some zs
  | [], _ => rfl
  | z :: zs, h => by
    have := nums_itoa zs (fun y hy => h y (by simp [hy]))
    simp [numsOf, num_itoa (h z (by simp)).1 (h z (by simp)).2, this]
theorem cut_tail (zs : List Int) (h : ∀ z ∈ zs, 0 ≤ z) : ∀ (cur : List UInt8), cutGo 32 cur (tail zs) = cur :: zs.map Lib.itoa := by
  induction zs with
  | nil => intro cur; rfl
  | cons z zs ih =>
    intro cur
    have e : tail (z :: zs) = 32 :: (Lib.itoa z ++ tail zs) := by simp [tail]
    rw [e, cutGo_hit rfl, cutGo_app 32 _ [] _ (not_itoa (h z (by simp)) (by decide)), List.nil_append, ih (fun y hy => h y (by simp [hy]))]
    rfl
theorem cut_body {p : List UInt8} (hp : (32 : UInt8) ∉ p) (zs : List Int) (h : ∀ z ∈ zs, 0 ≤ z) : cutB 32 (p ++ tail zs) = p :: zs.map Lib.itoa := by
  unfold cutB
  rw [cutGo_app 32 p [] _ hp, List.nil_append, cut_tail zs h]
theorem nums_small {o : O3} (ha : 0 ≤ o.2.1 ∧ o.2.1 ≤ 5) (hb : 0 ≤ o.2.2 ∧ o.2.2 ≤ 999) : ∀ z ∈ numsB o, 0 ≤ z ∧ z ≤ 999 := by
  intro z hz
  unfold numsB at hz
  split at hz
  · simp at hz; omega
  · split at hz
    · simp at hz
    · simp at hz; omega
theorem asm_nums (k : Nat) (a b : Int) (h1 : 1 ≤ k) (h2 : k ≤ 11) (h7 : k = 7 → a = 0) (h10 : k = 10 → a = 0 ∧ b = 0) (h11 : k = 11 → a = 0 ∧ b = 0) : asm k (numsB ((k : Int), a, b)) = some ((k : Int), a, b) := by
  have h : k = 1 ∨ k = 2 ∨ k = 3 ∨ k = 4 ∨ k = 5 ∨ k = 6 ∨ k = 7 ∨ k = 8 ∨ k = 9 ∨ k = 10 ∨ k = 11 := by omega
  rcases h with rfl | rfl | rfl | rfl | rfl | rfl | rfl | rfl | rfl | rfl | rfl
  case inr.inr.inr.inr.inr.inr.inl => obtain rfl := h7 rfl; rfl
  case inr.inr.inr.inr.inr.inr.inr.inr.inr.inl => obtain ⟨rfl, rfl⟩ := h10 rfl; rfl
  case inr.inr.inr.inr.inr.inr.inr.inr.inr.inr => obtain ⟨rfl, rfl⟩ := h11 rfl; rfl
  all_goals rfl
theorem opRead_opB {ops : Int} {o : O3} (hops : ops ≤ 1000) (h : ok3 ops o = true) : opRead (opB o) = some o := by
  have hr := ok3_range h
  have hs := ok3_small hops h
  obtain ⟨n, a, b⟩ := o
  simp only at hr hs
  obtain ⟨k, rfl⟩ : ∃ k : Nat, n = k := ⟨n.toNat, by omega⟩
  have hns := nums_small (o := ((k : Int), a, b)) ⟨hs.2.2.1, hs.2.2.2.1⟩ ⟨hs.2.2.2.2.1, hs.2.2.2.2.2⟩
  unfold opRead opB lineB
  rw [readB_snoc]
  unfold bodyB
  rw [cut_body (not_name (by decide)) _ (fun z hz => (hns z hz).1)]
  simp only
  rw [nums_itoa _ hns]
  simp only [Option.map_some]
  rw [named_hit k (by omega) (by omega)]
  refine asm_nums k a b (by omega) (by omega) (fun e => ?_) (fun e => ?_) (fun e => ?_)
  · subst e; have : bA ((7 : Nat) : Int) = 1 := rfl; omega
  · subst e
    have : bA ((10 : Nat) : Int) = 1 := rfl
    have : bB ((10 : Nat) : Int) ops = 1 := by simp [bB]
    omega
  · subst e
    have : bA ((11 : Nat) : Int) = 1 := rfl
    have : bB ((11 : Nat) : Int) ops = 1 := by simp [bB]
    omega
theorem lines_text (l : List O3) (h : ∀ o ∈ l, 0 ≤ o.2.1 ∧ 0 ≤ o.2.2) : linesB (textB l) = l.map opB := by
  induction l with
  | nil => rfl
  | cons o l ih =>
    have hno : (10 : UInt8) ∉ nameB o.1 ++ tail (numsB o) := by
      rw [List.mem_append, not_or]
      exact ⟨not_name (by decide), not_tail (by decide) (by decide) _ (nums_pos (h o (by simp)).1 (h o (by simp)).2)⟩
    have e : textB (o :: l) = (nameB o.1 ++ tail (numsB o)) ++ 10 :: textB l := by simp [textB, opB, lineB]
    rw [e, lines_at _ hno, ih (fun y hy => h y (by simp [hy]))]
    rfl
theorem ops_map {ops : Int} (hops : ops ≤ 1000) : ∀ (l : List O3), (∀ o ∈ l, ok3 ops o = true) → opsOf (l.map opB) = some l
  | [], _ => rfl
  | o :: l, h => by
    have := ops_map hops l (fun y hy => h y (by simp [hy]))
    simp [opsOf, opRead_opB hops (h o (by simp)), this]
/-- What is printed is read as it was. -/
theorem parse_print {l : List O3} (h : (chk l).2 = 0) : parseB (textB l) = (l, 0) := by
  obtain ⟨h0, h1, h2⟩ := chk_zero h
  refine parseB_ok ?_ h
  rw [lines_text l (fun o ho => by have := ok3_small (by omega) (h2 o ho); omega)]
  exact ops_map (by omega) l h2

theorem cut_join (c : UInt8) : ∀ (l cur : List UInt8) (p : List UInt8) (ps : List (List UInt8)), cutGo c cur l = p :: ps → cur ++ l = p ++ ps.flatMap (c :: ·)
  | [], cur, p, ps, h => by simp only [cutGo, List.cons.injEq] at h; obtain ⟨rfl, rfl⟩ := h; simp
  | x :: xs, cur, p, ps, h => by
    by_cases hx : x = c
    · rw [cutGo_hit hx] at h
      simp only [List.cons.injEq] at h
      obtain ⟨rfl, hps⟩ := h
      cases ps with
      | nil => have := (cutGo_len c xs []).1; rw [hps] at this; simp at this
      | cons q qs =>
        have := cut_join c xs [] q qs hps
        rw [List.nil_append] at this
        simp [hx, this]
    · rw [cutGo_miss hx] at h
      have := cut_join c xs (cur ++ [x]) p ps h
      simpa using this
theorem nums_back : ∀ (ps : List (List UInt8)) (ns : List Int), numsOf ps = some ns → ps.flatMap (32 :: ·) = tail ns
  | [], ns, h => by simp only [numsOf, Option.some.injEq] at h; subst h; rfl
  | p :: ps, ns, h => by
    simp only [numsOf] at h
    cases hp : numB p with
    | none => rw [hp] at h; cases h
    | some n =>
      rw [hp] at h
      cases hq : numsOf ps with
      | none => rw [hq] at h; cases h
      | some ms =>
        rw [hq] at h
        simp only [Option.map_some, Option.some.injEq] at h
        subst h
        have := nums_back ps ms hq
        rw [List.flatMap_cons, this, ← (numB_some hp).2.2]
        simp [tail]
theorem asm_back (k : Nat) (h1 : 1 ≤ k) (h2 : k ≤ 11) (ns : List Int) (o : O3) (h : asm k ns = some o) : o.1 = k ∧ numsB o = ns := by
  have hk : k = 1 ∨ k = 2 ∨ k = 3 ∨ k = 4 ∨ k = 5 ∨ k = 6 ∨ k = 7 ∨ k = 8 ∨ k = 9 ∨ k = 10 ∨ k = 11 := by omega
  rcases hk with rfl | rfl | rfl | rfl | rfl | rfl | rfl | rfl | rfl | rfl | rfl
  all_goals
    match ns, h with
    | [], h => revert h; simp [asm, asm2, stepN, pA, pB, bA, bB]; try (rintro rfl; decide)
    | [x], h => revert h; simp [asm, asm2, stepN, pA, pB, bA, bB]; try (rintro rfl; simp [numsB])
    | [x, y], h => revert h; simp [asm, asm2, stepN, pA, pB, bA, bB]; try (rintro rfl; simp [numsB])
    | x :: y :: z :: r, h => revert h; simp [asm, asm2, stepN, pA, pB, bA, bB]
theorem opRead_back {l : List UInt8} {o : O3} (h : opRead l = some o) : opB o = l := by
  unfold opRead at h
  cases hr : readB l with
  | none => rw [hr] at h; cases h
  | some pn =>
    obtain ⟨p, ns⟩ := pn
    rw [hr] at h
    simp only at h
    unfold readB at hr
    split at hr
    · rename_i hl
      obtain ⟨u, hu⟩ := List.getLast?_eq_some_iff.1 hl
      subst hu
      rw [List.dropLast_concat] at hr
      unfold bodyB at hr
      cases hc : cutB 32 u with
      | nil => rw [hc] at hr; cases hr
      | cons q qs =>
        rw [hc] at hr
        simp only at hr
        cases hq : numsOf qs with
        | none => rw [hq] at hr; cases hr
        | some ms =>
          rw [hq] at hr
          simp only [Option.map_some, Option.some.injEq, Prod.mk.injEq] at hr
          obtain ⟨rfl, rfl⟩ := hr
          have hj := cut_join 32 u [] _ _ hc
          rw [List.nil_append, nums_back _ _ hq] at hj
          rcases named_cases q with h0 | ⟨k, h1, h2, h3, h4⟩
          · rw [h0] at h; cases h
          · rw [h3] at h
            obtain ⟨e1, e2⟩ := asm_back k h1 h2 _ o h
            unfold opB lineB
            rw [e1, e2, ← h4, hj]
    · cases hr
theorem lines_join : ∀ (t cur : List UInt8), (linesGo cur t).flatten = cur ++ t
  | [], cur => by unfold linesGo; split <;> simp_all
  | x :: xs, cur => by
    unfold linesGo
    split
    · rename_i h; rw [List.flatten_cons, lines_join xs []]; simp [h]
    · rw [lines_join xs (cur ++ [x])]; simp
theorem ops_back : ∀ (ps : List (List UInt8)) (os : List O3), opsOf ps = some os → textB os = ps.flatten
  | [], os, h => by simp only [opsOf, Option.some.injEq] at h; subst h; rfl
  | p :: ps, os, h => by
    simp only [opsOf] at h
    cases hp : opRead p with
    | none => rw [hp] at h; cases h
    | some o =>
      rw [hp] at h
      cases hq : opsOf ps with
      | none => rw [hq] at h; cases h
      | some ms =>
        rw [hq] at h
        simp only [Option.map_some, Option.some.injEq] at h
        subst h
        have := ops_back ps ms hq
        rw [List.flatten_cons, ← this, ← opRead_back hp]
        simp [textB]
/-- What is read is printed as it was. -/
theorem print_parse {t : List UInt8} (h : (parseB t).2 = 0) : (chk (parseB t).1).2 = 0 ∧ textB (parseB t).1 = t := by
  cases ho : opsOf (linesB t) with
  | none => rw [parseB_bad ho] at h; cases h
  | some os =>
    by_cases h0 : (chk os).2 = 0
    · rw [parseB_ok ho h0]
      refine ⟨h0, ?_⟩
      rw [ops_back _ _ ho]
      exact lines_join t []
    · rw [parseB_err ho h0] at h
      exact absurd h h0
theorem ok3_more {m n : Int} {o : O3} (hmn : m ≤ n) (h : ok3 m o = true) : ok3 n o = true := by
  have hr := ok3_range h
  have hb : bB o.1 m ≤ bB o.1 n := by unfold bB; repeat' split <;> omega
  simp [ok3, fitsB]
  omega
theorem chk_more {l : List O3} {o : O3} (h : (chk l).2 = 0) (ho : (chk [o]).2 = 0) (hl : l.length < 20) : (chk (l ++ [o])).2 = 0 := by
  obtain ⟨h0, h1, h2⟩ := chk_zero h
  obtain ⟨_, _, h3⟩ := chk_zero ho
  rw [chk_zero_iff]
  refine ⟨by simp, by simp; omega, fun x hx => ?_⟩
  rw [List.mem_append] at hx
  rcases hx with hx | hx
  · exact ok3_more (by simp; omega) (h2 x hx)
  · simp at hx; subst hx; exact ok3_more (by simp; omega) (h3 x (by simp))
end Go.Proofs.YtfneffmiignapaaGreatDoor
