/-
  NumMath, Num7M, PlanBackM, EvTM, TrcCP, TcLM, REvText, Numb7, RefNum7, TcFlt, TcChk, TcCnt, TcOf, Law, WOpen, FlowOpen, EvOpen, Trod: joined into one text.
-/
import Derived.Test.YtkoomlnndnjllahGreatDoorJb2
import Derived.Test.YtkoomlnndnjllahGreatDoorJb1
import Derived.Deep.CutRange
import Derived.Deep.RegionWith
import Derived.RangeFuncNested
import Derived.Test.YtkoomlnndnjllahGreatDoorRows
import Derived.ProofKit
import Derived.LaidMore
import Derived.OpenShut
import Derived.Carry
import Derived.Stop.Joined
import Derived.Lib.SmallJoins
import Derived.Deep.Slices
namespace Go.Proofs.YtkoomlnndnjllahGreatDoor

def isD (d : UInt8) : Prop := 48 ≤ d.toNat ∧ d.toNat ≤ 57
def valD (l : List UInt8) : Int := l.foldl (fun a d => a * 10 + (d.toNat : Int) - 48) 0
theorem valD_nil : valD [] = 0 := rfl
theorem valD_snoc (l : List UInt8) (d : UInt8) : valD (l ++ [d]) = valD l * 10 + (d.toNat : Int) - 48 := by simp [valD]
theorem u8_back {d : UInt8} (h : isD d) : UInt8.ofNat (48 + (d.toNat - 48)) = d := by
  have := h.1
  rw [show 48 + (d.toNat - 48) = d.toNat by omega]
  simp
theorem dec_step {q r : Nat} (hq : 1 ≤ q) (hr : r < 10) : Lib.decDigits (q * 10 + r) = Lib.decDigits q ++ [UInt8.ofNat (48 + r)] := by
  rw [Lib.decDigits, dif_neg (by omega)]
  rw [show (q * 10 + r) / 10 = q by omega, show (q * 10 + r) % 10 = r by omega]
theorem val_good : ∀ (k : Nat) (l : List UInt8), l.length = k → (∀ d ∈ l, isD d) → l ≠ [] → (l.head? = some 48 → l.length = 1) → 0 ≤ valD l ∧ Lib.decDigits (valD l).toNat = l ∧ (l.head? ≠ some 48 → 1 ≤ valD l)
  | 0, l, hl, _, hne, _ => absurd (List.eq_nil_of_length_eq_zero hl) hne
  | k + 1, l, hl, hd, hne, hh => by
    rcases List.eq_nil_or_concat l with rfl | ⟨m, d, rfl⟩
    · exact absurd rfl hne
    · have hdd : isD d := hd d (by simp)
      obtain ⟨h1, h2⟩ := hdd
      rw [List.concat_eq_append] at *
      rw [valD_snoc]
      by_cases hm : m = []
      · subst hm
        simp only [valD_nil, List.nil_append]
        refine ⟨by omega, ?_, ?_⟩
        · rw [show ((0 : Int) * 10 + (d.toNat : Int) - 48).toNat = d.toNat - 48 by omega, Lib.decDigits_one (by omega), u8_back ⟨h1, h2⟩]
        · intro hne48
          have : d.toNat ≠ 48 := fun e => hne48 (by simp; exact UInt8.toNat_inj.1 e)
          omega
      · have hhd : (m ++ [d]).head? = m.head? := by cases m with | nil => exact absurd rfl hm | cons x xs => rfl
        have hlm : m.length = k := by simpa using hl
        have hmp : 0 < m.length := List.length_pos_iff.2 hm
        have hm48 : m.head? ≠ some 48 := fun e => by
          have := hh (hhd.trans e)
          simp at this
          exact hm this
        obtain ⟨i1, i2, i3⟩ := val_good k m hlm (fun x hx => hd x (by simp [hx])) hm (fun e => absurd e hm48)
        have i4 := i3 hm48
        refine ⟨by omega, ?_, fun _ => by omega⟩
        have e : (valD m * 10 + (d.toNat : Int) - 48).toNat = (valD m).toNat * 10 + (d.toNat - 48) := by omega
        rw [e, dec_step (by omega) (by omega), i2, u8_back ⟨h1, h2⟩]
theorem dec_head (u : Nat) (h : (Lib.decDigits u).head? = some 48) : u = 0 := by
  induction u using Nat.strongRecOn with
  | _ u ih =>
    by_cases hu : u < 10
    · rw [Lib.decDigits_one hu] at h
      simp only [List.head?_cons, Option.some.injEq] at h
      have := congrArg UInt8.toNat h
      simp [UInt8.toNat_ofNat] at this
      omega
    · rw [Lib.decDigits, dif_neg hu] at h
      have hne := dec_ne (u / 10)
      have e : (Lib.decDigits (u / 10) ++ [UInt8.ofNat (48 + u % 10)]).head? = (Lib.decDigits (u / 10)).head? := by
        cases hx : Lib.decDigits (u / 10) with
        | nil => exact absurd hx hne
        | cons x xs => rfl
      have := ih (u / 10) (by omega) (e.symm.trans h)
      omega
theorem numB_form {l : List UInt8} {n : Int} (h : numB l = some n) : l.length ≤ 4 ∧ l = Lib.decDigits n.toNat := by
  obtain ⟨h1, h2, h3⟩ := numB_some h
  rw [itoa_pos h2] at h3
  exact ⟨h1, h3.symm⟩
theorem num_empty : numB [] = none := by
  cases h : numB [] with
  | none => rfl
  | some n => exact absurd (numB_form h).2.symm (dec_ne _)
theorem num_zero {l : List UInt8} (h0 : l.head? = some 48) (h1 : 1 < l.length) : numB l = none := by
  cases h : numB l with
  | none => rfl
  | some n =>
    have hl := (numB_form h).2
    have hz := dec_head n.toNat (by rw [← hl]; exact h0)
    rw [hz] at hl
    rw [hl, Lib.decDigits_one (by omega)] at h1
    simp at h1
theorem num_nodigit {l : List UInt8} {d : UInt8} (hm : d ∈ l) (hd : d.toNat < 48 ∨ 57 < d.toNat) : numB l = none := by
  cases h : numB l with
  | none => rfl
  | some n =>
    have hl := (numB_form h).2
    rw [hl] at hm
    have := dec_mem _ d hm
    omega
theorem num_good {l : List UInt8} (hd : ∀ d ∈ l, isD d) (hne : l ≠ []) (h4 : l.length ≤ 4) (hh : l.head? = some 48 → l.length = 1) : numB l = some (valD l) := by
  obtain ⟨h1, h2, _⟩ := val_good l.length l rfl hd hne hh
  have ha := atoi_dec (valD l).toNat
  rw [h2, show (((valD l).toNat : Nat) : Int) = valD l by omega] at ha
  exact numB_yes h4 ha h1 (by rw [itoa_pos h1]; exact h2)
theorem valD_le : ∀ (l : List UInt8), (∀ d ∈ l, isD d) → l.length ≤ 4 → 0 ≤ valD l ∧ valD l ≤ 9999
  | [], _, _ => by simp [valD_nil]
  | [a], h, _ => by have := h a (by simp); unfold isD at this; simp only [valD, List.foldl]; omega
  | [a, b], h, _ => by have := h a (by simp); have := h b (by simp); unfold isD at *; simp only [valD, List.foldl]; omega
  | [a, b, c], h, _ => by have := h a (by simp); have := h b (by simp); have := h c (by simp); unfold isD at *; simp only [valD, List.foldl]; omega
  | [a, b, c, d], h, _ => by have := h a (by simp); have := h b (by simp); have := h c (by simp); have := h d (by simp); unfold isD at *; simp only [valD, List.foldl]; omega
  | a :: b :: c :: d :: e :: l, _, h => by simp at h
end Go.Proofs.YtkoomlnndnjllahGreatDoor
namespace Go.Proofs.YtkoomlnndnjllahGreatDoor

/-- The number that a word of at most seven bytes is. -/
def numB7 (l : List UInt8) : Option Int :=
  if l.length ≤ 7 then match Lib.atoi l with
    | some n => if 0 ≤ n ∧ Lib.itoa n = l then some n else none
    | none => none
  else none
theorem numB7_long {l : List UInt8} (h : 7 < l.length) : numB7 l = none := by unfold numB7; rw [if_neg (by omega)]
theorem numB7_bad {l : List UInt8} (h : Lib.atoi l = none) : numB7 l = none := by unfold numB7; rw [h]; split <;> rfl
theorem numB7_neg {l : List UInt8} {n : Int} (h : Lib.atoi l = some n) (h0 : n < 0) : numB7 l = none := by
  unfold numB7; rw [h]; split
  · simp only; rw [if_neg (by omega)]
  · rfl
theorem numB7_other {l : List UInt8} {n : Int} (h : Lib.atoi l = some n) (h0 : Lib.itoa n ≠ l) : numB7 l = none := by
  unfold numB7; rw [h]; split
  · simp only; rw [if_neg (fun hh => h0 hh.2)]
  · rfl
theorem numB7_yes {l : List UInt8} {n : Int} (hl : l.length ≤ 7) (h : Lib.atoi l = some n) (h0 : 0 ≤ n) (h1 : Lib.itoa n = l) : numB7 l = some n := by
  unfold numB7; rw [if_pos hl, h]; simp only; rw [if_pos ⟨h0, h1⟩]
theorem numB7_some {l : List UInt8} {n : Int} (h : numB7 l = some n) : l.length ≤ 7 ∧ 0 ≤ n ∧ Lib.itoa n = l := by
  by_cases h1 : l.length ≤ 7
  · cases h2 : Lib.atoi l with
    | none => rw [numB7_bad h2] at h; cases h
    | some m =>
      by_cases h3 : 0 ≤ m
      · by_cases h4 : Lib.itoa m = l
        · rw [numB7_yes h1 h2 h3 h4] at h
          obtain rfl := Option.some.inj h
          exact ⟨h1, h3, h4⟩
        · rw [numB7_other h2 h4] at h; cases h
      · rw [numB7_neg h2 (by omega)] at h; cases h
  · rw [numB7_long (by omega)] at h; cases h
theorem numB7_form {l : List UInt8} {n : Int} (h : numB7 l = some n) : l.length ≤ 7 ∧ l = Lib.decDigits n.toNat := by
  obtain ⟨h1, h2, h3⟩ := numB7_some h
  rw [itoa_pos h2] at h3
  exact ⟨h1, h3.symm⟩
theorem num7_empty : numB7 [] = none := by
  cases h : numB7 [] with
  | none => rfl
  | some n => exact absurd (numB7_form h).2.symm (dec_ne _)
theorem num7_zero {l : List UInt8} (h0 : l.head? = some 48) (h1 : 1 < l.length) : numB7 l = none := by
  cases h : numB7 l with
  | none => rfl
  | some n =>
    have hl := (numB7_form h).2
    have hz := dec_head n.toNat (by rw [← hl]; exact h0)
    rw [hz] at hl
    rw [hl, Lib.decDigits_one (by omega)] at h1
    simp at h1
theorem num7_nodigit {l : List UInt8} {d : UInt8} (hm : d ∈ l) (hd : d.toNat < 48 ∨ 57 < d.toNat) : numB7 l = none := by
  cases h : numB7 l with
  | none => rfl
  | some n =>
    have hl := (numB7_form h).2
    rw [hl] at hm
    have := dec_mem _ d hm
    omega
theorem num7_good {l : List UInt8} (hd : ∀ d ∈ l, isD d) (hne : l ≠ []) (h4 : l.length ≤ 7) (hh : l.head? = some 48 → l.length = 1) : numB7 l = some (valD l) := by
  obtain ⟨h1, h2, _⟩ := val_good l.length l rfl hd hne hh
  have ha := atoi_dec (valD l).toNat
  rw [h2, show (((valD l).toNat : Nat) : Int) = valD l by omega] at ha
  exact numB7_yes h4 ha h1 (by rw [itoa_pos h1]; exact h2)
theorem valD_pow : ∀ (k : Nat) (l : List UInt8), l.length = k → (∀ d ∈ l, isD d) → 0 ≤ valD l ∧ valD l < (10 : Int) ^ k
  | 0, l, h, _ => by
    have : l = [] := List.eq_nil_of_length_eq_zero h
    subst this
    rw [valD_nil]
    decide
  | k + 1, l, h, hd => by
    rcases List.eq_nil_or_concat l with e | ⟨l', d, e⟩
    · rw [e] at h; simp at h
    · rw [List.concat_eq_append] at e
      subst e
      rw [List.length_append, List.length_singleton] at h
      obtain ⟨h1, h2⟩ := valD_pow k l' (by omega) (fun x hx => hd x (List.mem_append_left _ hx))
      have h3 := hd d (List.mem_append_right _ (by simp))
      unfold isD at h3
      rw [valD_snoc, Int.pow_succ]
      omega
theorem valD_le7 (l : List UInt8) (hd : ∀ d ∈ l, isD d) (h : l.length ≤ 7) : 0 ≤ valD l ∧ valD l ≤ 9999999 := by
  obtain ⟨h1, h2⟩ := valD_pow l.length l rfl hd
  refine ⟨h1, ?_⟩
  have hc : l.length = 0 ∨ l.length = 1 ∨ l.length = 2 ∨ l.length = 3 ∨ l.length = 4 ∨ l.length = 5 ∨ l.length = 6 ∨ l.length = 7 := by omega
  rcases hc with e | e | e | e | e | e | e | e <;> (rw [e] at h2; simp at h2; omega)
theorem digK : ∀ (k u : Nat), u < 10 ^ (k + 1) → Lib.nDigits u ≤ k + 1
  | 0, u, h => by rw [Lib.nDigits_small (by simpa using h)]; omega
  | k + 1, u, h => by
    by_cases h1 : u < 10
    · rw [Lib.nDigits_small h1]; omega
    · rw [Lib.nDigits_big h1]
      have := digK k (u / 10) (by rw [Nat.pow_succ] at h; omega)
      omega
theorem dig7 {u : Nat} (h : u ≤ 9999999) : Lib.nDigits u ≤ 7 := digK 6 u (Nat.lt_of_le_of_lt h (by decide))
/-- A number of at most seven digits is read as it was. -/
theorem num7_itoa {z : Int} (h0 : 0 ≤ z) (h1 : z ≤ 9999999) : numB7 (Lib.itoa z) = some z := by
  obtain ⟨u, rfl⟩ : ∃ u : Nat, z = u := ⟨z.toNat, by omega⟩
  have hi : Lib.itoa (u : Int) = Lib.decDigits u := by rw [itoa_pos (by omega)]; simp
  rw [hi]
  refine numB7_yes ?_ (atoi_dec u) (by omega) hi
  have : u ≤ 9999999 := by omega
  rw [Lib.decDigits_length]
  exact dig7 this
end Go.Proofs.YtkoomlnndnjllahGreatDoor
namespace Go.Proofs.YtkoomlnndnjllahGreatDoor

theorem body_tail {w : List UInt8} (hw : (32 : UInt8) ∉ w) {zs : List Int} (h : ∀ z ∈ zs, 0 ≤ z ∧ z ≤ 999) : bodyB (w ++ tail zs) = some (w, zs) := by
  unfold bodyB
  rw [cut_body hw zs (fun z hz => (h z hz).1)]
  simp only
  rw [nums_itoa zs h]
  rfl
theorem body_back {u w : List UInt8} {ns : List Int} (h : bodyB u = some (w, ns)) : w ++ tail ns = u := by
  unfold bodyB at h
  cases hc : cutB 32 u with
  | nil => rw [hc] at h; cases h
  | cons q qs =>
    rw [hc] at h
    simp only at h
    cases hq : numsOf qs with
    | none => rw [hq] at h; cases h
    | some ms =>
      rw [hq] at h
      simp only [Option.map_some, Option.some.injEq, Prod.mk.injEq] at h
      obtain ⟨rfl, rfl⟩ := h
      have hj := cut_join 32 u [] _ _ hc
      rw [List.nil_append, nums_back _ _ hq] at hj
      exact hj.symm
theorem spanOf_back {u : List UInt8} {s : S3} (h : spanOf u = some s) : spanL s = u := by
  unfold spanOf at h
  split at h
  · rename_i p a b c hb
    split at h
    · rename_i hp
      simp only [Option.some.injEq] at h
      subst h
      subst hp
      exact body_back hb
    · cases h
  · cases h
theorem wireOf_back {u : List UInt8} {s : W4} (h : wireOf u = some s) : wireL s = u := by
  unfold wireOf at h
  split at h
  · rename_i p a b c d hb
    split at h
    · rename_i hp
      simp only [Option.some.injEq] at h
      subst h
      subst hp
      exact body_back hb
    · cases h
  · cases h
theorem frameOf_back {u : List UInt8} {n : Int} (h : frameOf u = some n) : frameL n = u := by
  unfold frameOf at h
  split at h
  · rename_i p a hb
    split at h
    · rename_i hp
      simp only [Option.some.injEq] at h
      subst h
      subst hp
      exact body_back hb
    · cases h
  · cases h
theorem takeF_back {α : Type} {f : List UInt8 → Option α} {g : α → List UInt8} (h : ∀ u s, f u = some s → g s = u) : ∀ r, (takeF f r).1.map g ++ (takeF f r).2 = r
  | [] => rfl
  | u :: r => by
    cases hu : f u with
    | none => rw [takeF_no hu]; rfl
    | some s =>
      rw [takeF_yes hu]
      simp only [List.map_cons, List.cons_append, h u s hu, takeF_back h r]
theorem onto_back {acc a : List (List O3)} {o : O3} (h : onto acc o = some a) : a.flatMap roomL = acc.flatMap roomL ++ [opL o] := by
  unfold onto at h
  split at h
  · cases h
  · rename_i c hc
    simp only [Option.some.injEq] at h
    subst h
    obtain ⟨u, hu⟩ := List.getLast?_eq_some_iff.1 hc
    subst hu
    rw [List.dropLast_concat]
    simp [roomL]
theorem opRead_line {u : List UInt8} {o : O3} (h : opRead (u ++ [10]) = some o) : opL o = u := by
  have := opRead_back h
  have e : opB o = opL o ++ [10] := rfl
  rw [e] at this
  exact List.append_cancel_right this
theorem roomsOf_back : ∀ (r : List (List UInt8)) (acc cs : List (List O3)), roomsOf acc r = some cs → cs.flatMap roomL = acc.flatMap roomL ++ r
  | [], acc, cs, h => by simp only [roomsOf, Option.some.injEq] at h; subst h; simp
  | u :: r, acc, cs, h => by
    rw [roomsOf] at h
    split at h
    · rename_i hu
      rw [roomsOf_back r _ cs h, hu]
      simp [roomL]
    · split at h
      · cases h
      · rename_i o ho
        split at h
        · cases h
        · rename_i a ha
          rw [roomsOf_back r a cs h, onto_back ha, opRead_line ho]
          simp
theorem planOf_back {ps : List (List UInt8)} {p : PD} (h : planOf ps = some p) : planL p = ps := by
  cases ps with
  | nil => cases h
  | cons u r =>
    rw [planOf] at h
    split at h
    · cases h
    · rename_i n hn
      split at h
      · cases h
      · rename_i cs hcs
        simp only [Option.some.injEq] at h
        subst h
        have e1 := takeF_back (fun _ _ h => spanOf_back h) r
        have e2 := takeF_back (fun _ _ h => wireOf_back h) (takeF spanOf r).2
        have e3 := roomsOf_back _ _ _ hcs
        simp only [List.flatMap_nil, List.nil_append] at e3
        unfold planL
        simp only
        rw [e3, e2, e1, frameOf_back hn]
theorem cut_end {t : List UInt8} {ps : List (List UInt8)} (h : cutB 10 t = ps ++ [[]]) : endL ps = t := by
  obtain ⟨ps', q, h1, _, h3⟩ := cut_lines t [] (by simp)
  have e : ps' ++ [q] = ps ++ [[]] := h1.symm.trans h
  obtain ⟨rfl, e2⟩ := List.append_inj' e rfl
  simp only [List.cons.injEq, and_true] at e2
  subst e2
  rw [if_pos rfl, List.append_nil] at h3
  have hj := lines_join t []
  rw [h3, List.nil_append] at hj
  rw [← hj, endL, List.flatMap_def]
/-- What is read is printed as it was. -/
theorem plan_back {t : List UInt8} (h : (planP t).2 = 0) : plchk (planP t).1 = 0 ∧ planB (planP t).1 = t := by
  unfold planP at h ⊢
  split at h
  · rename_i hq
    rw [if_pos hq]
    obtain ⟨ps, hps⟩ := List.getLast?_eq_some_iff.1 hq
    rw [hps, List.dropLast_concat] at h ⊢
    cases ho : planOf ps with
    | none => rw [ho, planR_none] at h; cases h
    | some p =>
      rw [ho] at h
      by_cases hk : plchk p = 0
      · rw [planR_ok hk]
        refine ⟨hk, ?_⟩
        simp only
        unfold planB
        rw [planOf_back ho]
        exact cut_end hps
      · rw [planR_bad hk] at h
        exact absurd h hk
  · cases h

theorem cut_endL : ∀ (ls : List (List UInt8)), (∀ u ∈ ls, (10 : UInt8) ∉ u) → cutB 10 (endL ls) = ls ++ [[]]
  | [], _ => rfl
  | u :: ls, h => by
    have e : endL (u :: ls) = u ++ 10 :: endL ls := by simp [endL]
    rw [e]
    unfold cutB
    rw [cutGo_at 10 u [] _ (h u (by simp)), List.nil_append, cut_endL ls (fun v hv => h v (by simp [hv]))]
    rfl
theorem not_word {w : List UInt8} {zs : List Int} (hw : (10 : UInt8) ∉ w) (h : ∀ z ∈ zs, 0 ≤ z) : (10 : UInt8) ∉ w ++ tail zs := by
  rw [List.mem_append, not_or]
  exact ⟨hw, not_tail (by decide) (by decide) zs h⟩
/-- What a plan that is right has for numbers. -/
structure Small (p : PD) : Prop where
  ticks : 0 ≤ p.ticks ∧ p.ticks ≤ 999
  spans : ∀ s ∈ p.spans, ∀ z ∈ [s.1, s.2.1, s.2.2], 0 ≤ z ∧ z ≤ 999
  wires : ∀ x ∈ p.wires, ∀ z ∈ [x.1, x.2.1, x.2.2.1, x.2.2.2], 0 ≤ z ∧ z ≤ 999
  code : ∀ c ∈ p.code, (chk c).2 = 0
theorem plan_small {p : PD} (h : plchk p = 0) : Small p := by
  obtain ⟨_, _, hf, hw, _, _, hc, _⟩ := plchk_zero h
  obtain ⟨f1, f2, _, f3, _⟩ := fchk_zero hf
  refine ⟨by omega, fun s hs z hz => ?_, fun x hx z hz => ?_, codesE_zero hc⟩
  · have := f3 s hs
    simp only [spOk, decide_eq_true_eq] at this
    simp only [List.mem_cons, List.not_mem_nil, or_false] at hz
    omega
  · have h0 := (wschk_ok hw).2 x hx
    have h1 := w4_rooms h0
    have h2 := wchk_kind h0
    simp only [List.mem_cons, List.not_mem_nil, or_false] at hz
    omega
theorem takeF_map {α : Type} {f : List UInt8 → Option α} {g : α → List UInt8} : ∀ (l : List α) (r : List (List UInt8)), (∀ x ∈ l, f (g x) = some x) → takeF f r = ([], r) → takeF f (l.map g ++ r) = (l, r)
  | [], r, _, h => h
  | x :: l, r, hx, h => by
    rw [List.map_cons, List.cons_append, takeF_yes (hx x (by simp)), takeF_map l r (fun y hy => hx y (by simp [hy])) h]
theorem spanOf_L {s : S3} (h : ∀ z ∈ [s.1, s.2.1, s.2.2], 0 ≤ z ∧ z ≤ 999) : spanOf (spanL s) = some s := by
  unfold spanOf spanL
  rw [body_tail (by decide) h]
  rfl
theorem wireOf_L {s : W4} (h : ∀ z ∈ [s.1, s.2.1, s.2.2.1, s.2.2.2], 0 ≤ z ∧ z ≤ 999) : wireOf (wireL s) = some s := by
  unfold wireOf wireL
  rw [body_tail (by decide) h]
  rfl
theorem frameOf_L {n : Int} (h : 0 ≤ n ∧ n ≤ 999) : frameOf (frameL n) = some n := by
  unfold frameOf frameL
  rw [body_tail (by decide) (fun z hz => by simp at hz; subst hz; exact h)]
  rfl
theorem spanOf_wire {s : W4} (h : ∀ z ∈ [s.1, s.2.1, s.2.2.1, s.2.2.2], 0 ≤ z ∧ z ≤ 999) : spanOf (wireL s) = none := by
  unfold spanOf wireL
  rw [body_tail (by decide) h]
theorem room_body : bodyB wRoom = some (wRoom, []) := bodyB_no (by decide)
theorem spanOf_room : spanOf wRoom = none := by unfold spanOf; rw [room_body]
theorem wireOf_room : wireOf wRoom = none := by unfold wireOf; rw [room_body]
theorem opRead_room : opRead (wRoom ++ [10]) = none := by
  unfold opRead
  rw [readB_snoc, room_body]
  rfl
theorem opRead_L {ops : Int} {o : O3} (hops : ops ≤ 1000) (h : ok3 ops o = true) : opRead (opL o ++ [10]) = some o := opRead_opB hops h
theorem opL_room {ops : Int} {o : O3} (hops : ops ≤ 1000) (h : ok3 ops o = true) : opL o ≠ wRoom := fun e => by
  have := opRead_L hops h
  rw [e, opRead_room] at this
  cases this
theorem roomsOf_ops {ops : Int} (hops : ops ≤ 1000) (acc : List (List O3)) (r : List (List UInt8)) : ∀ (d c : List O3), (∀ o ∈ d, ok3 ops o = true) → roomsOf (acc ++ [c]) (d.map opL ++ r) = roomsOf (acc ++ [c ++ d]) r
  | [], c, _ => by simp
  | o :: d, c, h => by
    have ho := h o (by simp)
    have e : onto (acc ++ [c]) o = some (acc ++ [c ++ [o]]) := by simp [onto]
    rw [List.map_cons, List.cons_append, roomsOf, if_neg (opL_room hops ho), opRead_L hops ho]
    simp only
    rw [e]
    simp only
    rw [roomsOf_ops hops acc r d (c ++ [o]) (fun x hx => h x (by simp [hx]))]
    simp
theorem roomsOf_L : ∀ (cs acc : List (List O3)), (∀ c ∈ cs, (chk c).2 = 0) → roomsOf acc (cs.flatMap roomL) = some (acc ++ cs)
  | [], acc, _ => by simp [roomsOf]
  | c :: cs, acc, h => by
    obtain ⟨_, h1, h2⟩ := chk_zero (h c (by simp))
    have e : (c :: cs).flatMap roomL = wRoom :: (c.map opL ++ cs.flatMap roomL) := by simp [roomL]
    rw [e, roomsOf, if_pos rfl, roomsOf_ops (ops := c.length) (by omega) acc _ c [] h2, List.nil_append, roomsOf_L cs (acc ++ [c]) (fun x hx => h x (by simp [hx]))]
    simp
theorem planOf_L {p : PD} (h : Small p) (h0 : p.code.length ≠ 0) : planOf (planL p) = some p := by
  obtain ⟨c, cs, hc⟩ : ∃ c cs, p.code = c :: cs := by
    cases hp : p.code with
    | nil => rw [hp] at h0; exact absurd rfl h0
    | cons c cs => exact ⟨c, cs, rfl⟩
  have er : p.code.flatMap roomL = wRoom :: (c.map opL ++ cs.flatMap roomL) := by rw [hc]; simp [roomL]
  have e1 : takeF wireOf (p.code.flatMap roomL) = ([], p.code.flatMap roomL) := by rw [er]; exact takeF_no wireOf_room _
  have e2 := takeF_map p.wires (p.code.flatMap roomL) (fun x hx => wireOf_L (h.wires x hx)) e1
  have e3 : takeF spanOf (p.wires.map wireL ++ p.code.flatMap roomL) = ([], p.wires.map wireL ++ p.code.flatMap roomL) := by
    cases hw : p.wires with
    | nil => rw [List.map_nil, List.nil_append, er]; exact takeF_no spanOf_room _
    | cons x xs => rw [List.map_cons, List.cons_append]; exact takeF_no (spanOf_wire (h.wires x (by rw [hw]; simp))) _
  have e4 := takeF_map p.spans _ (fun x hx => spanOf_L (h.spans x hx)) e3
  have e5 := roomsOf_L p.code [] h.code
  unfold planL
  rw [planOf, frameOf_L h.ticks]
  simp only
  rw [e4]
  simp only
  rw [e2]
  simp only
  rw [e5, List.nil_append]
theorem plan_lines {p : PD} (h : Small p) : ∀ u ∈ planL p, (10 : UInt8) ∉ u := by
  intro u hu
  simp only [planL, List.mem_cons, List.mem_append, List.mem_map, List.mem_flatMap] at hu
  rcases hu with rfl | ⟨s, hs, rfl⟩ | ⟨x, hx, rfl⟩ | ⟨c, hc, hu⟩
  · exact not_word (by decide) (fun z hz => by simp at hz; subst hz; exact h.ticks.1)
  · exact not_word (by decide) (fun z hz => (h.spans s hs z hz).1)
  · exact not_word (by decide) (fun z hz => (h.wires x hx z hz).1)
  · simp only [roomL, List.mem_cons, List.mem_map] at hu
    rcases hu with rfl | ⟨o, ho, rfl⟩
    · decide
    · obtain ⟨_, h1, h2⟩ := chk_zero (h.code c hc)
      have := ok3_small (by omega) (h2 o ho)
      exact not_word (not_name (by decide)) (nums_pos (by omega) (by omega))
/-- What is printed is read as it was. -/
theorem plan_read {p : PD} (h : plchk p = 0) : planP (planB p) = (p, 0) := by
  have hs := plan_small h
  have hc := cut_endL (planL p) (plan_lines hs)
  rw [planP_shut (t := planB p) hc, planOf_L hs (plchk_zero h).2.1, planR_ok h]
end Go.Proofs.YtkoomlnndnjllahGreatDoor
namespace Go.Proofs.YtkoomlnndnjllahGreatDoor

/-- A room as text: '-' of none. -/
def rmB (r : Int) : List UInt8 := if r = -1 then [45] else Lib.itoa r
/-- An event as a line. -/
def evL (e : W4) : List UInt8 := Lib.itoa e.1 ++ 32 :: (rmB e.2.1 ++ tail [e.2.2.1, e.2.2.2])
def evB (l : List W4) : List UInt8 := endL (l.map evL)
/-- A room that a word is. -/
def rmOf (b : List UInt8) : Option Int := if b = [45] then some (-1) else numB7 b
def ev4 : Option Int → Option Int → Option Int → Option Int → Option W4
  | some a, some b, some c, some d => some (a, b, c, d)
  | _, _, _, _ => none
/-- The event that a line is. -/
def evOf1 (u : List UInt8) : Option W4 := match cutB 32 u with
  | [a, b, c, d] => ev4 (numB7 a) (rmOf b) (numB7 c) (numB7 d)
  | _ => none
def evsOf : List (List UInt8) → Option (List W4)
  | [] => some []
  | u :: ls => match evOf1 u, evsOf ls with
    | some e, some l => some (e :: l)
    | _, _ => none
def evR (o : Option (List W4)) : List W4 × Int := match o with
  | none => ([], 2)
  | some l => if evchk l = 0 then (l, 0) else ([], evchk l)
/-- A text as events. -/
def evP (t : List UInt8) : List W4 × Int := if (cutB 10 t).getLast? = some [] then evR (evsOf (cutB 10 t).dropLast) else ([], 2)
theorem evP_open {t : List UInt8} {ps : List (List UInt8)} {q : List UInt8} (h : cutB 10 t = ps ++ [q]) (hq : q ≠ []) : evP t = ([], 2) := by
  unfold evP
  rw [h, List.getLast?_concat, if_neg (by simpa using hq)]
theorem evP_shut {t : List UInt8} {ps : List (List UInt8)} (h : cutB 10 t = ps ++ [[]]) : evP t = evR (evsOf ps) := by
  unfold evP
  rw [h, List.getLast?_concat, if_pos rfl, List.dropLast_concat]
theorem rm_back {b : List UInt8} {r : Int} (h : rmOf b = some r) : rmB r = b := by
  unfold rmOf at h
  split at h
  · rename_i hb
    obtain rfl := Option.some.inj h
    rw [hb]
    rfl
  · obtain ⟨_, h0, h1⟩ := numB7_some h
    unfold rmB
    rw [if_neg (by omega)]
    exact h1
theorem itoa_not {z : Int} (h : 0 ≤ z) {c : UInt8} (hc : c.toNat < 48) : c ∉ Lib.itoa z := fun hm => by
  have := itoa_mem h c hm
  omega
theorem rm_itoa {r : Int} (h : -1 ≤ r ∧ r ≤ 4) : rmOf (rmB r) = some r := by
  unfold rmB
  by_cases hr : r = -1
  · rw [if_pos hr, hr]
    rfl
  · rw [if_neg hr]
    unfold rmOf
    rw [if_neg, num7_itoa (by omega) (by omega)]
    intro e
    have hm : (45 : UInt8) ∈ Lib.itoa r := by rw [e]; simp
    exact itoa_not (by omega) (by decide) hm
theorem rm_not {r : Int} (h : -1 ≤ r) {c : UInt8} (hc : c.toNat < 45) : c ∉ rmB r := by
  unfold rmB
  split
  · intro hm
    rw [List.mem_singleton] at hm
    subst hm
    exact absurd hc (by decide)
  · exact itoa_not (by omega) (by omega)
theorem ev4_some {a b c d : Option Int} {e : W4} (h : ev4 a b c d = some e) : a = some e.1 ∧ b = some e.2.1 ∧ c = some e.2.2.1 ∧ d = some e.2.2.2 := by
  cases a with
  | none => cases h
  | some a =>
    cases b with
    | none => cases h
    | some b =>
      cases c with
      | none => cases h
      | some c =>
        cases d with
        | none => cases h
        | some d => obtain rfl := Option.some.inj h; exact ⟨rfl, rfl, rfl, rfl⟩
/-- What is read is printed as it was. -/
theorem ev_back1 {u : List UInt8} {e : W4} (h : evOf1 u = some e) : evL e = u := by
  unfold evOf1 at h
  split at h
  · rename_i a b c d hc
    obtain ⟨h1, h2, h3, h4⟩ := ev4_some h
    have hj := cut_join 32 u [] _ _ hc
    rw [List.nil_append] at hj
    unfold evL tail
    rw [(numB7_some h1).2.2, rm_back h2]
    simp only [List.flatMap_cons, List.flatMap_nil, (numB7_some h3).2.2, (numB7_some h4).2.2, List.append_nil]
    rw [hj]
    simp
  · cases h
theorem evs_back : ∀ {ps : List (List UInt8)} {l : List W4}, evsOf ps = some l → l.map evL = ps
  | [], l, h => by obtain rfl := Option.some.inj h; rfl
  | u :: ps, l, h => by
    unfold evsOf at h
    cases h1 : evOf1 u with
    | none => rw [h1] at h; cases h
    | some e =>
      cases h2 : evsOf ps with
      | none => rw [h1, h2] at h; cases h
      | some l' =>
        rw [h1, h2] at h
        obtain rfl := Option.some.inj h
        rw [List.map_cons, ev_back1 h1, evs_back h2]
theorem ev_back {t : List UInt8} (h : (evP t).2 = 0) : evchk (evP t).1 = 0 ∧ evB (evP t).1 = t := by
  unfold evP at h ⊢
  split at h
  · rename_i hq
    rw [if_pos hq]
    obtain ⟨ps, hps⟩ := List.getLast?_eq_some_iff.1 hq
    rw [hps, List.dropLast_concat] at h ⊢
    cases ho : evsOf ps with
    | none => rw [ho] at h; cases h
    | some l =>
      rw [ho] at h
      by_cases hk : evchk l = 0
      · have e : evR (some l) = (l, 0) := by unfold evR; simp only; rw [if_pos hk]
        rw [e]
        refine ⟨hk, ?_⟩
        unfold evB
        rw [evs_back ho]
        exact cut_end hps
      · have e : evR (some l) = ([], evchk l) := by unfold evR; simp only; rw [if_neg hk]
        rw [e] at h
        exact absurd h hk
  · cases h
/-- What is printed is read as it was. -/
theorem ev_line {e : W4} (h : evBad e = 0) : evOf1 (evL e) = some e ∧ (10 : UInt8) ∉ evL e := by
  obtain ⟨h1, h2, h3, h4, _⟩ := evBad_zero h
  have hz : ∀ z ∈ [e.2.2.1, e.2.2.2], 0 ≤ z := fun z hz => by
    simp only [List.mem_cons, List.not_mem_nil, or_false] at hz
    rcases hz with rfl | rfl
    · exact h3.1
    · exact h4.1
  constructor
  · unfold evOf1 evL
    have hc : cutB 32 (Lib.itoa e.1 ++ 32 :: (rmB e.2.1 ++ tail [e.2.2.1, e.2.2.2])) = [Lib.itoa e.1, rmB e.2.1, Lib.itoa e.2.2.1, Lib.itoa e.2.2.2] := by
      unfold cutB
      rw [cutGo_at 32 _ [] _ (itoa_not h1.1 (by decide)), List.nil_append, cut_body (rm_not h2.1 (by decide)) _ hz]
      rfl
    rw [hc]
    simp only
    rw [num7_itoa h1.1 (by omega), rm_itoa h2, num7_itoa h3.1 (by omega), num7_itoa h4.1 (by omega)]
    rfl
  · unfold evL
    rw [List.mem_append, List.mem_cons]
    rintro (hm | hm | hm)
    · exact itoa_not h1.1 (by decide) hm
    · exact absurd hm (by decide)
    · exact not_word (rm_not h2.1 (by decide)) hz hm
theorem evs_map : ∀ {l : List W4}, (∀ e ∈ l, evBad e = 0) → evsOf (l.map evL) = some l
  | [], _ => rfl
  | e :: l, h => by
    rw [List.map_cons, evsOf, (ev_line (h e (List.mem_cons_self ..))).1, evs_map (fun x hx => h x (List.mem_cons_of_mem _ hx))]
theorem ev_read {l : List W4} (h : evchk l = 0) : evP (evB l) = (l, 0) := by
  obtain ⟨_, h2⟩ := evchk_zero.1 h
  unfold evB
  rw [evP_shut (cut_endL (l.map evL) (fun u hu => by
    obtain ⟨e, he, rfl⟩ := List.mem_map.1 hu
    exact (ev_line (h2 e he)).2)), evs_map h2]
  unfold evR
  simp only
  rw [if_pos h]
theorem evsOf_snoc {ps : List (List UInt8)} {l : List W4} {u : List UInt8} {e : W4} (h : evsOf ps = some l) (hu : evOf1 u = some e) : evsOf (ps ++ [u]) = some (l ++ [e]) := by
  induction ps generalizing l with
  | nil => obtain rfl := Option.some.inj h; simp [evsOf, hu]
  | cons x ps ih =>
    unfold evsOf at h
    cases h1 : evOf1 x with
    | none => rw [h1] at h; cases h
    | some e1 =>
      cases h2 : evsOf ps with
      | none => rw [h1, h2] at h; cases h
      | some l' =>
        rw [h1, h2] at h
        obtain rfl := Option.some.inj h
        rw [List.cons_append, evsOf, h1, ih h2]
        rfl
theorem evsOf_bad {ps qs : List (List UInt8)} {u : List UInt8} (hu : evOf1 u = none) : evsOf (ps ++ u :: qs) = none := by
  induction ps with
  | nil => rw [List.nil_append, evsOf, hu]
  | cons x ps ih =>
    rw [List.cons_append, evsOf, ih]
    cases evOf1 x <;> rfl
end Go.Proofs.YtkoomlnndnjllahGreatDoor
namespace Go.Proofs.YtkoomlnndnjllahGreatDoor
open Go.RowKit

def evTx (l : List W4) : List UInt8 := if evchk l = 0 then evB l else []
def TrcPrint (G : World → Prop) : Prop := ∀ (l : List W4) (v : Value) (W : World), G W → Wrs W v l → Calls Tryz.prog 14 #[v] W fun e w' => e = .returned (.tuple #[.string ⟨(evTx l).toArray⟩, wErr (evchk l)]) ∧ Below W.heap.size W w'
def TrcParse (G : World → Prop) : Prop := ∀ (t : ByteArray) (W : World), G W → t.size ≤ 140737488355328 → Calls Tryz.prog 19 #[.string t] W fun e w' => ∃ u, e = .returned (.tuple #[u, wErr (evP t.data.toList).2]) ∧ Wrs w' u (evP t.data.toList).1 ∧ Below W.heap.size W w'
theorem tail_two {c d : Int} (h1 : 0 ≤ c ∧ c ≤ 19) (h2 : 0 ≤ d ∧ d ≤ 5) : (tail [c, d]).length ≤ 44 := by
  have := tail_le [c, d] (fun z hz => by
    simp only [List.mem_cons, List.not_mem_nil, or_false] at hz
    rcases hz with rfl | rfl <;> omega)
  simpa using this
theorem evL_len {e : W4} (h : evBad e = 0) : (evL e).length ≤ 100 := by
  obtain ⟨h1, h2, h3, h4, _⟩ := evBad_zero h
  have a1 := Lib.itoa_length_le e.1 (by omega) (by omega)
  have a2 : (rmB e.2.1).length ≤ 21 := by
    unfold rmB
    split
    · decide
    · exact Lib.itoa_length_le e.2.1 (by omega) (by omega)
  have a3 := tail_two h3 h4
  unfold evL
  simp only [List.length_append, List.length_cons]
  omega
theorem endL_len : ∀ {ls : List (List UInt8)}, (∀ u ∈ ls, u.length ≤ 100) → (endL ls).length ≤ 101 * ls.length
  | [], _ => Nat.le_refl _
  | u :: ls, h => by
    have ih := endL_len (ls := ls) (fun x hx => h x (List.mem_cons_of_mem _ hx))
    have h0 := h u (List.mem_cons_self ..)
    have e : endL (u :: ls) = (u ++ [10]) ++ endL ls := by simp [endL]
    rw [e]
    simp only [List.length_append, List.length_cons, List.length_nil]
    omega
theorem evB_len {l : List W4} (h : evchk l = 0) : (evB l).length ≤ 202000 := by
  obtain ⟨h1, h2⟩ := evchk_zero.1 h
  unfold evB
  have := endL_len (ls := l.map evL) (fun u hu => by
    obtain ⟨e, he, rfl⟩ := List.mem_map.1 hu
    exact evL_len (h2 e he))
  rw [List.length_map] at this
  omega
end Go.Proofs.YtkoomlnndnjllahGreatDoor
namespace Go.Proofs.YtkoomlnndnjllahGreatDoor

/-- A line, its end with it, as an event. -/
def evRd (p : List UInt8) : Option W4 := if p.getLast? = some 10 then evOf1 p.dropLast else none
theorem evRd_yes (u : List UInt8) : evRd (u ++ [10]) = evOf1 u := by
  unfold evRd
  rw [List.getLast?_concat, if_pos rfl, List.dropLast_concat]
theorem evRd_no {p : List UInt8} (h : ∀ u, p ≠ u ++ [10]) : evRd p = none := by
  unfold evRd
  rw [if_neg]
  intro e
  obtain ⟨u, hu⟩ := List.getLast?_eq_some_iff.1 e
  exact h u hu
def evsRd : List (List UInt8) → Option (List W4)
  | [] => some []
  | p :: ps => match evRd p with
    | none => none
    | some n => (evsRd ps).map (n :: ·)
theorem evsRd_snoc (ps : List (List UInt8)) (ns : List W4) (p : List UInt8) (n : W4) (h : evsRd ps = some ns) (hn : evRd p = some n) : evsRd (ps ++ [p]) = some (ns ++ [n]) := by
  induction ps generalizing ns with
  | nil => simp only [evsRd, Option.some.injEq] at h; subst h; simp [evsRd, hn]
  | cons q qs ih =>
    simp only [evsRd] at h
    cases hq : evRd q with
    | none => rw [hq] at h; cases h
    | some m =>
      rw [hq] at h
      cases hqs : evsRd qs with
      | none => rw [hqs] at h; cases h
      | some ms =>
        rw [hqs] at h
        simp only [Option.map_some, Option.some.injEq] at h
        subst h
        simp [evsRd, hq, ih ms hqs]
theorem evsRd_bad {ps qs : List (List UInt8)} {p : List UInt8} (hn : evRd p = none) : evsRd (ps ++ p :: qs) = none := by
  induction ps with
  | nil => simp [evsRd, hn]
  | cons q rs ih =>
    simp only [List.cons_append, evsRd]
    cases evRd q with
    | none => rfl
    | some m => simp [ih]
theorem evsRd_of : ∀ ps : List (List UInt8), evsRd (ps.map (· ++ [10])) = evsOf ps
  | [] => rfl
  | u :: ps => by
    rw [List.map_cons, evsRd, evsOf, evRd_yes, evsRd_of ps]
    cases evOf1 u <;> cases evsOf ps <;> rfl
/-- What a text is as events, by its lines. -/
theorem evP_byline (t : List UInt8) : evP t = evR (evsRd (linesB t)) := by
  obtain ⟨ps, q, h1, h2, h3⟩ := cut_lines t [] (by simp)
  have hl : linesB t = ps.map (· ++ [10]) ++ (if q = [] then [] else [q]) := h3
  by_cases hq : q = []
  · rw [if_pos hq, List.append_nil] at hl
    subst hq
    rw [evP_shut h1, hl, evsRd_of]
  · rw [if_neg hq] at hl
    rw [evP_open h1 hq, hl, evsRd_bad (evRd_no (fun u e => h2 (by rw [e]; simp)))]
    rfl
theorem evchk_take (l : List W4) : evchk (l.take 2001) = evchk l := by
  by_cases h : l.length ≤ 2001
  · rw [List.take_of_length_le h]
  · have h1 : 2000 < (l.take 2001).length := by rw [List.length_take]; omega
    unfold evchk
    rw [if_pos h1, if_pos (show 2000 < l.length by omega)]
theorem ev_take_ok {l : List W4} (h : evchk l = 0) : l.take 2001 = l := List.take_of_length_le (by have := (evchk_zero.1 h).1; omega)
theorem ev_take_lt {os : List W4} {o : W4} (h : os.length ≤ 2000) : (os ++ [o]).take 2001 = os.take 2001 ++ [o] := by
  rw [List.take_of_length_le (by simp; omega), List.take_of_length_le (by omega)]
theorem ev_take_ge {os : List W4} {o : W4} (h : 2000 < os.length) : (os ++ [o]).take 2001 = os.take 2001 := by
  rw [List.take_append_of_le_length (by omega)]
theorem evR_ok {l : List W4} (h : evchk l = 0) : evR (some l) = (l, 0) := by unfold evR; simp only; rw [if_pos h]
theorem evR_err {l : List W4} (h : evchk l ≠ 0) : evR (some l) = ([], evchk l) := by unfold evR; simp only; rw [if_neg h]
theorem evOf1_not4 {u : List UInt8} (h : (cutB 32 u).length ≠ 4) : evOf1 u = none := by
  unfold evOf1
  split
  · rename_i a b c d e
    rw [e] at h
    exact absurd rfl h
  · rfl
theorem evOf1_of {u a b c d : List UInt8} (h : cutB 32 u = [a, b, c, d]) : evOf1 u = ev4 (numB7 a) (rmOf b) (numB7 c) (numB7 d) := by
  unfold evOf1
  rw [h]
theorem ev4_n1 (b c d : Option Int) : ev4 none b c d = none := by cases b <;> cases c <;> cases d <;> rfl
theorem ev4_n2 (a : Int) (c d : Option Int) : ev4 (some a) none c d = none := by cases c <;> cases d <;> rfl
theorem ev4_n3 (a b : Int) (d : Option Int) : ev4 (some a) (some b) none d = none := by cases d <;> rfl
theorem ev4_n4 (a b c : Int) : ev4 (some a) (some b) (some c) none = none := rfl
end Go.Proofs.YtkoomlnndnjllahGreatDoor
namespace Go.Proofs.YtkoomlnndnjllahGreatDoor
open Go.RowKit

theorem ints_pair (W : World) (k : Nat) (hk : k = W.heap.size) (a b : Int) : Ints (W.alloc (.cells #[.int .i64 a, .int .i64 b] 3)) (.slice (some ⟨k, 0, none⟩) 2 2) [a, b] := by
  subst hk
  refine Or.inr ⟨_, 2, rfl, by simp, fun i z hi => ?_⟩
  match i, hi with
  | 0, hi => simp at hi; subst hi; simp [Addr.add]
  | 1, hi => simp at hi; subst hi; simp [Addr.add]
  | i + 2, hi => simp at hi
theorem itoa_short {z : Int} (h0 : 0 ≤ z) (h1 : z ≤ 10000000) : (Lib.itoa z).length ≤ 21 := Lib.itoa_length_le z (by omega) (by omega)
set_option maxRecDepth 100000 in
set_option maxHeartbeats 4000000 in
theorem revtext_any (e : W4) (w : World) (h : evBad e = 0) : Calls Tryz.prog 13 #[.agg #[.int .i64 e.1, .int .i64 e.2.1, .int .i64 e.2.2.1, .int .i64 e.2.2.2]] w fun ev w' => ev = .returned (.string ⟨(evL e).toArray⟩) ∧ Below w.heap.size w w' := by
  obtain ⟨a, b, c, d⟩ := e
  obtain ⟨⟨h1, h1'⟩, ⟨h2, h2'⟩, ⟨h3, h3'⟩, ⟨h4, h4'⟩, h5⟩ := evBad_zero h
  clear h5
  simp only at h1 h1' h2 h2' h3 h3' h4 h4'
  have hA : Below w.heap.size w (w.alloc (.cells #[.int .i64 a, .int .i64 b, .int .i64 c, .int .i64 d] 32)) := (Below.refl _ _).alloc (Nat.le_refl _) _
  have hpair := ints_pair (w.alloc (.cells #[.int .i64 a, .int .i64 b, .int .i64 c, .int .i64 d] 32)) (w.heap.size + 1) (by simp) c d
  have hda := fun W => digits_int a h1 (by omega) W
  have hla := itoa_short (z := a) h1 (by omega)
  have hE : evL (a, b, c, d) = (Lib.itoa a ++ ([32] ++ rmB b)) ++ tail [c, d] := by unfold evL; simp
  rw [hE]
  clear hE h
  obtain ⟨D, hD⟩ : ∃ D, D = Lib.itoa a := ⟨_, rfl⟩
  rw [← hD] at hda hla ⊢
  clear hD
  by_cases hb : b = -1
  · subst hb
    rw [show rmB (-1) = [45] from rfl]
    have hrow := fun W v (hv : Ints W v [c, d]) => row_any (D ++ ([32] ++ [45])) v [c, d] W hv (by simp; omega) (by simp; omega)
    obtain ⟨T, hT⟩ : ∃ T, T = (D ++ ([32] ++ [45])) ++ tail [c, d] := ⟨_, rfl⟩
    rw [← hT] at hrow ⊢
    rw [← ba_app3] at hrow
    clear hT
    go_enter Tryz.func13, Tryz.ntmps13
    go_wp2_with (first
      | (go_at_call 33; refine (hda _).mono ?_; rintro e w1 ⟨rfl, hw⟩; subst hw; clear hda)
      | (go_at_call 34; refine (hrow _ _ hpair).mono ?_; rintro e w2 ⟨rfl, b2⟩; clear hrow))
    go_ret
    exact ⟨rfl, (hA.alloc (by simp) _).trans (b2.mono (by simp; omega))⟩
  · have hb0 : 0 ≤ b := by omega
    rw [show rmB b = Lib.itoa b by unfold rmB; rw [if_neg hb]]
    have hdb := fun W => digits_int b hb0 (by omega) W
    have hlb := itoa_short (z := b) hb0 (by omega)
    obtain ⟨E, hE⟩ : ∃ E, E = Lib.itoa b := ⟨_, rfl⟩
    rw [← hE] at hdb hlb ⊢
    clear hE
    have hrow := fun W v (hv : Ints W v [c, d]) => row_any (D ++ ([32] ++ E)) v [c, d] W hv (by simp; omega) (by simp; omega)
    obtain ⟨T, hT⟩ : ∃ T, T = (D ++ ([32] ++ E)) ++ tail [c, d] := ⟨_, rfl⟩
    rw [← hT] at hrow ⊢
    rw [← ba_app3] at hrow
    clear hT
    have k0 : 0 ≤ b := hb0
    go_enter Tryz.func13, Tryz.ntmps13
    go_wp2_with (first
      | (go_at_call 33; refine (hdb _).mono ?_; rintro e w1 ⟨rfl, hw⟩; subst hw; clear hdb)
      | (go_at_call 33; refine (hda _).mono ?_; rintro e w1 ⟨rfl, hw⟩; subst hw; clear hda)
      | (go_at_call 34; refine (hrow _ _ hpair).mono ?_; rintro e w2 ⟨rfl, b2⟩; clear hrow))
    go_ret
    exact ⟨rfl, (hA.alloc (by simp) _).trans (b2.mono (by simp; omega))⟩
end Go.Proofs.YtkoomlnndnjllahGreatDoor
namespace Go.Proofs.YtkoomlnndnjllahGreatDoor
open Go.RowKit

set_option maxRecDepth 100000 in
set_option maxHeartbeats 2000000 in
theorem number7_long (s : ByteArray) (w : World) (h : 7 < s.size) :
    Calls Tryz.prog 75 #[.string s, .int .i64 7] w fun e w' => e = .returned (.tuple #[.int .i64 0, .bool false]) ∧ Below w.heap.size w w' := by
  go_enter Tryz.func75, Tryz.ntmps75
  go_wp2
  go_ret2
  exact ⟨rfl, Below.refl _ _⟩
set_option maxRecDepth 100000 in
set_option maxHeartbeats 2000000 in
theorem number7_bad (s : ByteArray) (w : World) (hl : s.size ≤ 7) (h : Lib.atoi s.data.toList = none) (he : ErrS w) :
    Calls Tryz.prog 75 #[.string s, .int .i64 7] w fun e w' => e = .returned (.tuple #[.int .i64 0, .bool false]) ∧ Below w.heap.size w w' := by
  have hat := atoi_no s (by omega) h w he
  clear h he
  go_enter Tryz.func75, Tryz.ntmps75
  go_wp2_with (go_at_call 104; refine hat.mono ?_; rintro e w1 ⟨t, p, rfl, b1⟩; clear hat)
  go_ret2
  exact ⟨rfl, b1⟩
set_option maxRecDepth 100000 in
set_option maxHeartbeats 2000000 in
theorem number7_neg (s : ByteArray) (n : Int) (w : World) (hl : s.size ≤ 7) (h : Lib.atoi s.data.toList = some n) (hn : n < 0) :
    Calls Tryz.prog 75 #[.string s, .int .i64 7] w fun e w' => e = .returned (.tuple #[.int .i64 0, .bool false]) ∧ Below w.heap.size w w' := by
  have hat := atoi_yes s n (by omega) h w
  clear h
  go_enter Tryz.func75, Tryz.ntmps75
  go_wp2_with (go_at_call 104; refine hat.mono ?_; rintro e w1 ⟨rfl, b1⟩; clear hat)
  go_ret2
  exact ⟨rfl, b1⟩
set_option maxRecDepth 100000 in
set_option maxHeartbeats 2000000 in
theorem number7_yes (s : ByteArray) (n : Int) (w : World) (hl : s.size ≤ 7) (h : Lib.atoi s.data.toList = some n) (hn : 0 ≤ n) (hp : Pow10 w) (hB : (Lib.itoa n == s.toList) = true) :
    Calls Tryz.prog 75 #[.string s, .int .i64 7] w fun e w' => e = .returned (.tuple #[.int .i64 n, .bool true]) ∧ Below w.heap.size w w' := by
  have hr := atoi_range (by simpa using (show s.size ≤ 18 by omega)) h
  have hat := atoi_yes s n (by omega) h w
  clear h
  go_enter Tryz.func75, Tryz.ntmps75
  go_wp2_with (first | (go_at_call 104; refine hat.mono ?_; rintro e w1 ⟨rfl, b1⟩; clear hat) | (go_at_call 69; refine (itoa_any n hr.1 hr.2 w1 (hp.all b1)).mono ?_; rintro e w2 ⟨rfl, b2⟩))
  go_ret2
  exact ⟨rfl, b1.trans (b2.mono b1.size)⟩
set_option maxRecDepth 100000 in
set_option maxHeartbeats 2000000 in
theorem number7_other (s : ByteArray) (n : Int) (w : World) (hl : s.size ≤ 7) (h : Lib.atoi s.data.toList = some n) (hn : 0 ≤ n) (hp : Pow10 w) (hB : (Lib.itoa n == s.toList) = false) :
    Calls Tryz.prog 75 #[.string s, .int .i64 7] w fun e w' => e = .returned (.tuple #[.int .i64 0, .bool false]) ∧ Below w.heap.size w w' := by
  have hr := atoi_range (by simpa using (show s.size ≤ 18 by omega)) h
  have hat := atoi_yes s n (by omega) h w
  clear h
  go_enter Tryz.func75, Tryz.ntmps75
  go_wp2_with (first | (go_at_call 104; refine hat.mono ?_; rintro e w1 ⟨rfl, b1⟩; clear hat) | (go_at_call 69; refine (itoa_any n hr.1 hr.2 w1 (hp.all b1)).mono ?_; rintro e w2 ⟨rfl, b2⟩))
  go_ret2
  exact ⟨rfl, b1.trans (b2.mono b1.size)⟩

theorem number7_any (s : ByteArray) (w : World) (ht : Tabs2 w) :
    Calls Tryz.prog 75 #[.string s, .int .i64 7] w fun e w' => e = .returned (.tuple #[.int .i64 ((numB7 s.data.toList).getD 0), .bool (numB7 s.data.toList).isSome]) ∧ Below w.heap.size w w' := by
  have hsl : s.data.toList.length = s.size := by simp
  have hst : s.toList = s.data.toList := Lib.toList_data s
  by_cases h1 : 7 < s.size
  · rw [numB7_long (by omega)]; exact number7_long s w h1
  · cases h2 : Lib.atoi s.data.toList with
    | none => rw [numB7_bad h2]; exact number7_bad s w (by omega) h2 ht.err
    | some n =>
      by_cases h3 : n < 0
      · rw [numB7_neg h2 h3]; exact number7_neg s n w (by omega) h2 h3
      · by_cases h4 : Lib.itoa n = s.data.toList
        · rw [numB7_yes (by omega) h2 (by omega) h4]; exact number7_yes s n w (by omega) h2 (by omega) ht.tabs.pow (by rw [hst]; simpa using h4)
        · rw [numB7_other h2 h4]; exact number7_other s n w (by omega) h2 (by omega) ht.tabs.pow (by rw [hst]; simpa using h4)
end Go.Proofs.YtkoomlnndnjllahGreatDoor
namespace Go.Proofs.YtkoomlnndnjllahGreatDoor
open Go.RowKit

def numV7 (l : List UInt8) : Value := .tuple #[.int .i64 ((numB7 l).getD 0), .bool (numB7 l).isSome]

set_option maxRecDepth 100000 in
set_option maxHeartbeats 2000000 in
theorem rnum7_empty (w : World) : Calls Tryz.prog 41 #[.string ⟨#[]⟩, .int .i64 7] w fun e w' => e = .returned (.tuple #[.int .i64 0, .bool false]) ∧ Below w.heap.size w w' := by
  go_enter Tryz.func41, Tryz.ntmps41
  go_wp2
  go_ret2
  exact ⟨rfl, Below.refl _ _⟩
theorem str_ne7 {s : ByteArray} (h : 0 < s.size) : (s.toList == ([] : List UInt8)) = false := by
  rw [Lib.toList_data s]
  cases hd : s.data.toList with
  | nil =>
    have : s.data.toList.length = s.size := by simp
    rw [hd] at this
    simp at this
    omega
  | cons x xs => rfl
set_option maxRecDepth 100000 in
set_option maxHeartbeats 2000000 in
theorem rnum7_long (s : ByteArray) (w : World) (h : 7 < s.size) : Calls Tryz.prog 41 #[.string s, .int .i64 7] w fun e w' => e = .returned (.tuple #[.int .i64 0, .bool false]) ∧ Below w.heap.size w w' := by
  have hne := str_ne7 (s := s) (by omega)
  have h' : (7 : Int) < (s.size : Int) := by omega
  go_enter Tryz.func41, Tryz.ntmps41
  go_wp2
  go_ret2
  exact ⟨rfl, Below.refl _ _⟩
set_option maxRecDepth 100000 in
set_option maxHeartbeats 2000000 in
theorem rnum7_zero (s : ByteArray) (w : World) (h0 : 1 < s.size) (h4 : s.size ≤ 7) (hz : ((s[0].toNat : Int) == 48) = true) : Calls Tryz.prog 41 #[.string s, .int .i64 7] w fun e w' => e = .returned (.tuple #[.int .i64 0, .bool false]) ∧ Below w.heap.size w w' := by
  have hne := str_ne7 (s := s) (by omega)
  have hb : decide ((7 : Int) < (s.size : Int)) = false := by simp; omega
  have hb1 : decide ((1 : Int) < (s.size : Int)) = true := by simp; omega
  go_enter Tryz.func41, Tryz.ntmps41
  go_wp2
  go_ret2
  exact ⟨rfl, Below.refl _ _⟩

set_option maxRecDepth 1000000 in
set_option maxHeartbeats 4000000 in
theorem rnum7_main (s : ByteArray) (w : World) (h0 : 0 < s.size) (h4 : s.size ≤ 7) (hz : ((s[0].toNat : Int) == 48) = false ∨ (s.size = 1 ∧ ((s[0].toNat : Int) == 48) = true)) : Calls Tryz.prog 41 #[.string s, .int .i64 7] w fun e w' => e = .returned (numV7 s.data.toList) ∧ Below w.heap.size w w' := by
  have hne := str_ne7 (s := s) (by omega)
  have hb : decide ((7 : Int) < (s.size : Int)) = false := by simp; omega
  have hsl : s.data.toList.length = s.size := by simp
  have HH : Hid (s.data.toList.head? = some 48 → s.data.toList.length = 1) := fun e => by
    rcases hz with hz | hz
    · exfalso
      have h1 : s.data.toList[0]? = some 48 := by rw [← List.head?_eq_getElem?]; exact e
      rw [List.getElem?_eq_getElem (by omega)] at h1
      have h2 : s[0] = 48 := Option.some.inj h1
      rw [h2] at hz
      simp at hz
    · omega
  rcases hz with hz | ⟨hz1, hz⟩
  · skip
    go_enter Tryz.func41, Tryz.ntmps41
    go_wp2
    clear hz
    go_loopw [6, 7] (fun n i wr => ∃ k : Nat, k ≤ s.size ∧ i = .int .i64 k ∧ n = .int .i64 (valD (s.data.toList.take k)) ∧ (∀ d ∈ s.data.toList.take k, isD d) ∧ wr = w) (fun _ i _ => s.size - (intOf i).toNat)
    case atStart => exact ⟨0, Nat.zero_le _, rfl, rfl, by simp, rfl⟩
    case round =>
      obtain ⟨k, hk, rfl, rfl, hall, rfl⟩ := hrel
      have hvl := valD_le7 (s.data.toList.take k) hall (by rw [List.length_take]; omega)
      have HA : Hid (∀ d ∈ s.data.toList.take k, isD d) := hall
      clear hall
      obtain ⟨V, hV⟩ : ∃ V, V = valD (s.data.toList.take k) := ⟨_, rfl⟩
      rw [← hV] at hvl ⊢
      have HV : Hid (V = valD (s.data.toList.take k)) := hV
      clear hV
      by_cases hkl : k < s.size
      · have hkl' : k < s.data.toList.length := by omega
        have hgd : s[k] = s.data.toList[k] := rfl
        have HT : Hid (s.data.toList.take (k + 1) = s.data.toList.take k ++ [s[k]'hkl]) := List.take_succ_eq_append_getElem hkl'
        have HM : Hid (s[k]'hkl ∈ s.data.toList) := List.getElem_mem hkl'
        clear hkl' hgd hsl
        by_cases hd1 : (s[k].toNat : Int) < 48
        · have HN : Hid (numB7 s.data.toList = none) := num7_nodigit HM.out (Or.inl (by omega))
          go_wp2
          go_ret2
          exact ⟨by unfold numV7; rw [HN.out]; rfl, Below.refl _ _⟩
        · by_cases hd2 : (57 : Int) < (s[k].toNat : Int)
          · have HN : Hid (numB7 s.data.toList = none) := num7_nodigit HM.out (Or.inr (by omega))
            go_wp2
            go_ret2
            exact ⟨by unfold numV7; rw [HN.out]; rfl, Below.refl _ _⟩
          · have HD : Hid (isD s[k]) := ⟨by omega, by omega⟩
            go_wp2
            go_roundw
            case rel =>
              refine ⟨k + 1, by omega, by go_num, ?_, ?_, by first | rfl | trivial⟩
              · rw [HT.out, valD_snoc, ← HV.out]
              · intro d hd
                rw [HT.out, List.mem_append] at hd
                rcases hd with hd | hd
                · exact HA.out d hd
                · rw [List.mem_singleton] at hd
                  rw [hd]
                  exact HD.out
            case measure => simp [intOf]; omega
      · have hke : k = s.size := by omega
        subst hke
        have HN : Hid (numB7 s.data.toList = some V) := by
          have e : s.data.toList.take s.size = s.data.toList := List.take_of_length_le (by omega)
          have h1 := HA.out
          have h2 := HV.out
          rw [e] at h1 h2
          show _ = _
          rw [h2]
          exact num7_good h1 (fun e0 => by rw [e0] at hsl; simp at hsl; omega) (by omega) HH.out
        clear hsl
        go_wp2
        go_ret2
        exact ⟨by unfold numV7; rw [HN.out]; rfl, Below.refl _ _⟩
  · have hb1 : decide ((1 : Int) < (s.size : Int)) = false := by simp; omega
    clear hz1
    go_enter Tryz.func41, Tryz.ntmps41
    go_wp2
    clear hz hb1
    go_loopw [6, 7] (fun n i wr => ∃ k : Nat, k ≤ s.size ∧ i = .int .i64 k ∧ n = .int .i64 (valD (s.data.toList.take k)) ∧ (∀ d ∈ s.data.toList.take k, isD d) ∧ wr = w) (fun _ i _ => s.size - (intOf i).toNat)
    case atStart => exact ⟨0, Nat.zero_le _, rfl, rfl, by simp, rfl⟩
    case round =>
      obtain ⟨k, hk, rfl, rfl, hall, rfl⟩ := hrel
      have hvl := valD_le7 (s.data.toList.take k) hall (by rw [List.length_take]; omega)
      have HA : Hid (∀ d ∈ s.data.toList.take k, isD d) := hall
      clear hall
      obtain ⟨V, hV⟩ : ∃ V, V = valD (s.data.toList.take k) := ⟨_, rfl⟩
      rw [← hV] at hvl ⊢
      have HV : Hid (V = valD (s.data.toList.take k)) := hV
      clear hV
      by_cases hkl : k < s.size
      · have hkl' : k < s.data.toList.length := by omega
        have hgd : s[k] = s.data.toList[k] := rfl
        have HT : Hid (s.data.toList.take (k + 1) = s.data.toList.take k ++ [s[k]'hkl]) := List.take_succ_eq_append_getElem hkl'
        have HM : Hid (s[k]'hkl ∈ s.data.toList) := List.getElem_mem hkl'
        clear hkl' hgd hsl
        by_cases hd1 : (s[k].toNat : Int) < 48
        · have HN : Hid (numB7 s.data.toList = none) := num7_nodigit HM.out (Or.inl (by omega))
          go_wp2
          go_ret2
          exact ⟨by unfold numV7; rw [HN.out]; rfl, Below.refl _ _⟩
        · by_cases hd2 : (57 : Int) < (s[k].toNat : Int)
          · have HN : Hid (numB7 s.data.toList = none) := num7_nodigit HM.out (Or.inr (by omega))
            go_wp2
            go_ret2
            exact ⟨by unfold numV7; rw [HN.out]; rfl, Below.refl _ _⟩
          · have HD : Hid (isD s[k]) := ⟨by omega, by omega⟩
            go_wp2
            go_roundw
            case rel =>
              refine ⟨k + 1, by omega, by go_num, ?_, ?_, by first | rfl | trivial⟩
              · rw [HT.out, valD_snoc, ← HV.out]
              · intro d hd
                rw [HT.out, List.mem_append] at hd
                rcases hd with hd | hd
                · exact HA.out d hd
                · rw [List.mem_singleton] at hd
                  rw [hd]
                  exact HD.out
            case measure => simp [intOf]; omega
      · have hke : k = s.size := by omega
        subst hke
        have HN : Hid (numB7 s.data.toList = some V) := by
          have e : s.data.toList.take s.size = s.data.toList := List.take_of_length_le (by omega)
          have h1 := HA.out
          have h2 := HV.out
          rw [e] at h1 h2
          show _ = _
          rw [h2]
          exact num7_good h1 (fun e0 => by rw [e0] at hsl; simp at hsl; omega) (by omega) HH.out
        clear hsl
        go_wp2
        go_ret2
        exact ⟨by unfold numV7; rw [HN.out]; rfl, Below.refl _ _⟩
theorem refnum7_any (s : ByteArray) (w : World) : Calls Tryz.prog 41 #[.string s, .int .i64 7] w fun e w' => e = .returned (numV7 s.data.toList) ∧ Below w.heap.size w w' := by
  have hsl : s.data.toList.length = s.size := by simp
  by_cases h0 : s.size = 0
  · have hd : s.data.toList = [] := List.eq_nil_of_length_eq_zero (by omega)
    have hs : s = ⟨#[]⟩ := by apply ByteArray.ext; apply Array.toList_inj.1; exact hd
    rw [hd, hs]
    unfold numV7
    rw [num7_empty]
    exact rnum7_empty w
  · by_cases h4 : 7 < s.size
    · unfold numV7
      rw [numB7_long (by omega)]
      exact rnum7_long s w h4
    · by_cases hz : ((s[0]'(by omega)).toNat : Int) = 48
      · by_cases h1 : s.size = 1
        · exact rnum7_main s w (by omega) (by omega) (Or.inr ⟨h1, by simpa using hz⟩)
        · have hh : s.data.toList.head? = some 48 := by
            rw [List.head?_eq_getElem?, List.getElem?_eq_getElem (by omega)]
            refine congrArg some ?_
            exact UInt8.toNat_inj.1 (by have : s.data.toList[0] = s[0]'(by omega) := rfl; rw [this]; simp; omega)
          unfold numV7
          rw [num7_zero hh (by omega)]
          exact rnum7_zero s w (by omega) (by omega) (by simpa using hz)
      · exact rnum7_main s w (by omega) (by omega) (Or.inl (by simpa using hz))
end Go.Proofs.YtkoomlnndnjllahGreatDoor
namespace Go.Proofs.YtkoomlnndnjllahGreatDoor
open Go.RowKit

set_option maxRecDepth 100000 in
set_option maxHeartbeats 4000000 in
theorem fault_any (a b c d : Int) (w : World) : Calls Tryz.prog 66 #[.agg #[.int .i64 a, .int .i64 b, .int .i64 c, .int .i64 d]] w fun x w' => x = .returned (wErr (evBad (a, b, c, d))) ∧ Below w.heap.size w w' := by
  have hw := wi_out a b c d
  have bb : Below w.heap.size w (w.alloc (.cells #[.int .i64 a, .int .i64 b, .int .i64 c, .int .i64 d] 32)) := (Below.refl _ _).alloc (Nat.le_refl _) _
  obtain ⟨t1, h1⟩ : ∃ t, wiB a 0 1000000 = t := ⟨_, rfl⟩
  obtain ⟨t2, h2⟩ : ∃ t, wiB b (-1) 4 = t := ⟨_, rfl⟩
  obtain ⟨t3, h3⟩ : ∃ t, wiB c 0 19 = t := ⟨_, rfl⟩
  obtain ⟨t4, h4⟩ : ∃ t, wiB d 0 5 = t := ⟨_, rfl⟩
  rw [h1, h2, h3, h4] at hw
  have q1 := fun W => within_of h1 W
  have q2 := fun W => trroom_of h2 W
  have q3 := fun W => within_of h3 W
  have q4 := fun W => within_of h4 W
  clear h1 h2 h3 h4
  by_cases ho : evOut (a, b, c, d) = true
  · have HB : Hid (evBad (a, b, c, d) = 1) := by show _ = _; unfold evBad; rw [if_pos ho]
    rw [ho] at hw
    cases t1 with
    | false =>
      clear hw ho
      go_enter Tryz.func66, Tryz.ntmps66
      go_wp2_with (go_at_call 30; with_reducible refine (q1 _).mono ?_; rintro e w1 ⟨rfl, hw1⟩; subst hw1)
      go_ret
      rw [HB.out]
      exact ⟨rfl, bb⟩
    | true =>
      cases t2 with
      | false =>
        clear hw ho
        go_enter Tryz.func66, Tryz.ntmps66
        go_wp2_with (first | (go_at_call 30; with_reducible refine (q1 _).mono ?_; rintro e w1 ⟨rfl, hw1⟩; subst hw1) | (go_at_call 39; refine (q2 _).mono ?_; rintro e w1 ⟨rfl, hw1⟩; subst hw1))
        go_ret
        rw [HB.out]
        exact ⟨rfl, bb⟩
      | true =>
        cases t3 with
        | false =>
          clear hw ho
          go_enter Tryz.func66, Tryz.ntmps66
          go_wp2_with (first | (go_at_call 30; with_reducible refine (q1 _).mono ?_; rintro e w1 ⟨rfl, hw1⟩; subst hw1) | (go_at_call 39; refine (q2 _).mono ?_; rintro e w1 ⟨rfl, hw1⟩; subst hw1) | (go_at_call 30; with_reducible refine (q3 _).mono ?_; rintro e w1 ⟨rfl, hw1⟩; subst hw1))
          go_ret
          rw [HB.out]
          exact ⟨rfl, bb⟩
        | true =>
          cases t4 with
          | false =>
            clear hw ho
            go_enter Tryz.func66, Tryz.ntmps66
            go_wp2_with (first | (go_at_call 30; with_reducible refine (q1 _).mono ?_; rintro e w1 ⟨rfl, hw1⟩; subst hw1) | (go_at_call 39; refine (q2 _).mono ?_; rintro e w1 ⟨rfl, hw1⟩; subst hw1) | (go_at_call 30; with_reducible refine (q3 _).mono ?_; rintro e w1 ⟨rfl, hw1⟩; subst hw1) | (go_at_call 30; with_reducible refine (q4 _).mono ?_; rintro e w1 ⟨rfl, hw1⟩; subst hw1))
            go_ret
            rw [HB.out]
            exact ⟨rfl, bb⟩
          | true => exact absurd hw (by decide)
  · have hb : evOut (a, b, c, d) = false := by simpa using ho
    rw [hb] at hw
    have ht : t1 = true ∧ t2 = true ∧ t3 = true ∧ t4 = true := by
      revert hw
      cases t1 <;> cases t2 <;> cases t3 <;> cases t4 <;> decide
    obtain ⟨rfl, rfl, rfl, rfl⟩ := ht
    clear hw hb
    by_cases hr : b = -1
    · by_cases hc : c = 0
      · by_cases hd : d = 0
        · have HB : Hid (evBad (a, b, c, d) = 0) := by show _ = _; unfold evBad; rw [if_neg ho, if_neg (by simp only; omega)]
          clear ho
          subst hr hc hd
          go_enter Tryz.func66, Tryz.ntmps66
          go_wp2_with (first | (go_at_call 30; with_reducible refine (q1 _).mono ?_; rintro e w1 ⟨rfl, hw1⟩; subst hw1) | (go_at_call 39; refine (q2 _).mono ?_; rintro e w1 ⟨rfl, hw1⟩; subst hw1) | (go_at_call 30; with_reducible refine (q3 _).mono ?_; rintro e w1 ⟨rfl, hw1⟩; subst hw1) | (go_at_call 30; with_reducible refine (q4 _).mono ?_; rintro e w1 ⟨rfl, hw1⟩; subst hw1))
          go_ret
          rw [HB.out]
          exact ⟨rfl, bb⟩
        · have HB : Hid (evBad (a, b, c, d) = 3) := by show _ = _; unfold evBad; rw [if_neg ho, if_pos (by simp only; omega)]
          have hd' : (d == 0) = false := by simpa using hd
          clear ho
          subst hr hc
          go_enter Tryz.func66, Tryz.ntmps66
          go_wp2_with (first | (go_at_call 30; with_reducible refine (q1 _).mono ?_; rintro e w1 ⟨rfl, hw1⟩; subst hw1) | (go_at_call 39; refine (q2 _).mono ?_; rintro e w1 ⟨rfl, hw1⟩; subst hw1) | (go_at_call 30; with_reducible refine (q3 _).mono ?_; rintro e w1 ⟨rfl, hw1⟩; subst hw1) | (go_at_call 30; with_reducible refine (q4 _).mono ?_; rintro e w1 ⟨rfl, hw1⟩; subst hw1))
          go_ret
          rw [HB.out]
          exact ⟨rfl, bb⟩
      · have HB : Hid (evBad (a, b, c, d) = 3) := by show _ = _; unfold evBad; rw [if_neg ho, if_pos (by simp only; omega)]
        have hc' : (c == 0) = false := by simpa using hc
        clear ho
        subst hr
        go_enter Tryz.func66, Tryz.ntmps66
        go_wp2_with (first | (go_at_call 30; with_reducible refine (q1 _).mono ?_; rintro e w1 ⟨rfl, hw1⟩; subst hw1) | (go_at_call 39; refine (q2 _).mono ?_; rintro e w1 ⟨rfl, hw1⟩; subst hw1) | (go_at_call 30; with_reducible refine (q3 _).mono ?_; rintro e w1 ⟨rfl, hw1⟩; subst hw1) | (go_at_call 30; with_reducible refine (q4 _).mono ?_; rintro e w1 ⟨rfl, hw1⟩; subst hw1))
        go_ret
        rw [HB.out]
        exact ⟨rfl, bb⟩
    · have HB : Hid (evBad (a, b, c, d) = 0) := by show _ = _; unfold evBad; rw [if_neg ho, if_neg (by simp only; omega)]
      have hr' : (b == -1) = false := by simpa using hr
      clear ho
      go_enter Tryz.func66, Tryz.ntmps66
      go_wp2_with (first | (go_at_call 30; with_reducible refine (q1 _).mono ?_; rintro e w1 ⟨rfl, hw1⟩; subst hw1) | (go_at_call 39; refine (q2 _).mono ?_; rintro e w1 ⟨rfl, hw1⟩; subst hw1) | (go_at_call 30; with_reducible refine (q3 _).mono ?_; rintro e w1 ⟨rfl, hw1⟩; subst hw1) | (go_at_call 30; with_reducible refine (q4 _).mono ?_; rintro e w1 ⟨rfl, hw1⟩; subst hw1))
      go_ret
      rw [HB.out]
      exact ⟨rfl, bb⟩
end Go.Proofs.YtkoomlnndnjllahGreatDoor
namespace Go.Proofs.YtkoomlnndnjllahGreatDoor
open Go.RowKit

set_option maxRecDepth 100000 in
set_option maxHeartbeats 1000000 in
theorem evwrong_yes (a b c d : Int) (w : World) (h : evBad (a, b, c, d) ≠ 0) : Calls Tryz.prog 65 #[.agg #[.int .i64 a, .int .i64 b, .int .i64 c, .int .i64 d]] w fun x w' => x = .returned (.bool true) ∧ Below w.heap.size w w' := by
  have q := fault_any a b c d (w.alloc (.cells #[.int .i64 a, .int .i64 b, .int .i64 c, .int .i64 d] 32))
  rw [wErr_not h] at q
  generalize evBad (a, b, c, d) = z at q
  clear h
  go_enter Tryz.func65, Tryz.ntmps65
  go_wp2_with (go_at_call 66; refine q.mono ?_; rintro e w1 ⟨rfl, b1⟩; clear q)
  go_ret
  exact ⟨rfl, ((Below.refl _ _).alloc (Nat.le_refl _) _).trans (b1.mono (by simp))⟩
set_option maxRecDepth 100000 in
set_option maxHeartbeats 1000000 in
theorem evwrong_no (a b c d : Int) (w : World) (h : evBad (a, b, c, d) = 0) : Calls Tryz.prog 65 #[.agg #[.int .i64 a, .int .i64 b, .int .i64 c, .int .i64 d]] w fun x w' => x = .returned (.bool false) ∧ Below w.heap.size w w' := by
  have q := fault_any a b c d (w.alloc (.cells #[.int .i64 a, .int .i64 b, .int .i64 c, .int .i64 d] 32))
  rw [h, show wErr 0 = .nilIface from rfl] at q
  clear h
  go_enter Tryz.func65, Tryz.ntmps65
  go_wp2_with (go_at_call 66; refine q.mono ?_; rintro e w1 ⟨rfl, b1⟩; clear q)
  go_ret
  exact ⟨rfl, ((Below.refl _ _).alloc (Nat.le_refl _) _).trans (b1.mono (by simp))⟩
theorem evScan_at : ∀ {l : List W4} {k : Nat} {x : W4}, (∀ (j : Nat) y, j < k → l[j]? = some y → evBad y = 0) → l[k]? = some x → evBad x ≠ 0 → evScan l = evBad x
  | [], _, _, _, h, _ => by simp at h
  | e :: l, 0, x, _, h, hx => by
    simp at h
    subst h
    unfold evScan
    rw [if_neg hx]
  | e :: l, k + 1, x, ha, h, hx => by
    have h0 := ha 0 e (Nat.zero_lt_succ _) rfl
    unfold evScan
    rw [if_pos h0]
    exact evScan_at (k := k) (fun j y hj hy => ha (j + 1) y (by omega) (by simpa using hy)) (by simpa using h) hx
theorem evScan_none {l : List W4} (h : ∀ (j : Nat) y, j < l.length → l[j]? = some y → evBad y = 0) : evScan l = 0 := by
  rw [evScan_zero]
  intro e he
  obtain ⟨j, hj, rfl⟩ := List.mem_iff_getElem.1 he
  exact h j _ hj (List.getElem?_eq_getElem hj)
set_option maxRecDepth 100000 in
set_option maxHeartbeats 2000000 in
theorem evindex_any (l : List W4) (v : Value) (w : World) (hl : Wrs w v l) (hlen : l.length ≤ 2000) :
    Calls Tryz.prog 67 #[v, .func (.func 65) #[] #[]] w fun e w' =>
      (∃ r : Int, e = .returned (.int .i64 r) ∧ ((r = -1 ∧ evScan l = 0) ∨ ∃ (k : Nat) (x : W4), r = k ∧ l[k]? = some x ∧ evBad x ≠ 0 ∧ evScan l = evBad x)) ∧ Below w.heap.size w w' := by
  obtain ⟨ao, cap, rfl⟩ := hl.form
  have HL : Hid (Wrs w (.slice ao l.length cap) l) := hl
  clear hl
  go_enter Tryz.func67, Tryz.ntmps67
  go_wp2
  go_loopw [8] (fun i wr => ∃ k : Nat, k ≤ l.length ∧ i = .int .i64 k ∧ Hid (∀ (j : Nat) y, j < k → l[j]? = some y → evBad y = 0) ∧ Below w.heap.size w wr) (fun i _ => l.length - (intOf i).toNat)
  case atStart => exact ⟨0, Nat.zero_le _, rfl, fun j x hj => by omega, Below.refl _ _⟩
  case round =>
    obtain ⟨k, hk, rfl, HS, hb⟩ := hrel
    by_cases hkl : k < l.length
    · obtain ⟨b, off, f, t, kd, d, rfl, hlt, hx, c0, c1, c2, c3⟩ := HL.out.at hkl
      have HX : Hid (l[k]? = some (f, t, kd, d)) := hx
      replace c0 := (hb.cell (p := ⟨b, _, none⟩) hlt).trans c0
      replace c1 := (hb.cell (p := ⟨b, _, none⟩) hlt).trans c1
      replace c2 := (hb.cell (p := ⟨b, _, none⟩) hlt).trans c2
      replace c3 := (hb.cell (p := ⟨b, _, none⟩) hlt).trans c3
      clear hx
      by_cases hz : evBad (f, t, kd, d) = 0
      · have HZ : Hid (evBad (f, t, kd, d) = 0) := hz
        have q := fun W => evwrong_no f t kd d W hz
        clear hz
        go_wp2_with (go_at_call 65; refine (q _).mono ?_; rintro e w1 ⟨rfl, b1⟩; clear q)
        go_roundw
        case rel =>
          refine ⟨k + 1, by omega, by go_num, fun j y hj hy => ?_, hb.trans (b1.mono hb.size)⟩
          by_cases hjk : j < k
          · exact HS.out j y hjk hy
          · obtain rfl : j = k := by omega
            rw [HX.out] at hy
            obtain rfl := Option.some.inj hy
            exact HZ.out
        case measure => simp [intOf]; omega
      · have HZ : Hid (evBad (f, t, kd, d) ≠ 0) := hz
        have q := fun W => evwrong_yes f t kd d W hz
        clear hz
        go_wp2_with (go_at_call 65; refine (q _).mono ?_; rintro e w1 ⟨rfl, b1⟩; clear q)
        go_ret
        exact ⟨⟨_, rfl, Or.inr ⟨k, _, rfl, HX.out, HZ.out, evScan_at HS.out HX.out HZ.out⟩⟩, hb.trans (b1.mono hb.size)⟩
    · obtain rfl : k = l.length := by omega
      have HF : Hid (evScan l = 0) := evScan_none HS.out
      clear HL
      go_wp2
      go_ret
      exact ⟨⟨_, rfl, Or.inl ⟨rfl, HF.out⟩⟩, hb⟩
set_option maxRecDepth 100000 in
set_option maxHeartbeats 2000000 in
theorem evcheck_any (l : List W4) (v : Value) (w : World) (hl : Wrs w v l) :
    Calls Tryz.prog 35 #[v] w fun e w' => e = .returned (wErr (evchk l)) ∧ Below w.heap.size w w' := by
  obtain ⟨ao, cap, rfl⟩ := hl.form
  by_cases h : 2000 < l.length
  · have HF : Hid (evchk l = 4) := by show _ = _; unfold evchk; rw [if_pos h]
    have hi : (2000 : Int) < (l.length : Int) := by omega
    clear hl
    go_enter Tryz.func35, Tryz.ntmps35
    go_wp2
    go_ret
    rw [HF.out]
    exact ⟨rfl, Below.refl _ _⟩
  · have HF : Hid (evchk l = evScan l) := by show _ = _; unfold evchk; rw [if_neg h]
    have hi : decide ((2000 : Int) < (l.length : Int)) = false := by simp; omega
    have hn : decide (2000 < l.length) = false := by simp; omega
    have q := evindex_any l _ w hl (by omega)
    have HL : Hid (Wrs w (.slice ao l.length cap) l) := hl
    clear hl
    go_enter Tryz.func35, Tryz.ntmps35
    go_upto_region 5 with (go_at_call 67; refine q.mono ?_; rintro e w1 ⟨⟨r, rfl, hr⟩, b1⟩; clear q)
    rcases hr with ⟨rfl, h0⟩ | ⟨k, ⟨x0, x1, x2, x3⟩, rfl, hx, hne, hs⟩
    · have H0 : Hid (evScan l = 0) := h0
      clear h0
      go_wp2
      go_ret
      rw [HF.out, H0.out]
      exact ⟨rfl, b1⟩
    · have hkl : k < l.length := (List.getElem?_eq_some_iff.1 hx).1
      have H0 : Hid (evScan l = evBad (x0, x1, x2, x3)) := hs
      obtain ⟨b, off, f, t, kd, d, rfl, hlt, hx2, c0, c1, c2, c3⟩ := HL.out.at hkl
      rw [hx2] at hx
      obtain ⟨rfl, rfl, rfl, rfl⟩ : f = x0 ∧ t = x1 ∧ kd = x2 ∧ d = x3 := by simpa using hx
      replace c0 := (b1.cell (p := ⟨b, _, none⟩) hlt).trans c0
      replace c1 := (b1.cell (p := ⟨b, _, none⟩) hlt).trans c1
      replace c2 := (b1.cell (p := ⟨b, _, none⟩) hlt).trans c2
      replace c3 := (b1.cell (p := ⟨b, _, none⟩) hlt).trans c3
      have hki : (k : Int) < (l.length : Int) := by omega
      have q2 := fun W => fault_any f t kd d W
      clear hx hx2 hs hne
      go_wp2_with (go_at_call 66; refine (q2 _).mono ?_; rintro e w2 ⟨rfl, b2⟩; clear q2)
      go_ret
      rw [HF.out, H0.out]
      exact ⟨rfl, b1.trans (b2.mono b1.size)⟩
end Go.Proofs.YtkoomlnndnjllahGreatDoor
namespace Go.Proofs.YtkoomlnndnjllahGreatDoor
open Go.RowKit

theorem cntW_next {l : List W4} {k : Nat} {e : W4} (h : l[k]? = some e) (q : Int) : cntW (l.take (k + 1)) q = cntW (l.take k) q + if e.2.2.2 = q then 1 else 0 := by
  obtain ⟨hk, rfl⟩ := List.getElem?_eq_some_iff.1 h
  rw [List.take_succ_eq_append_getElem hk]
  unfold cntW
  rw [List.filter_append, List.length_append]
  by_cases h2 : (l[k]).2.2.2 = q
  · rw [if_pos h2]; simp [h2]
  · rw [if_neg h2]; simp [h2]
theorem cntW_take_le (l : List W4) (k : Nat) (q : Int) : cntW (l.take k) q ≤ l.length := by
  unfold cntW
  have h1 := List.length_filter_le (fun e : W4 => decide (e.2.2.2 = q)) (l.take k)
  have h2 : (l.take k).length ≤ l.length := by simp; omega
  omega
/-- A row of numbers that is being laid. -/
def IxN (w : World) (g n : Nat) (P : Nat → Nat) : Prop := ∀ i, i < n → w.cell? ⟨g, i, none⟩ = some (.int .i64 (P i)) ∧ w.frozen? ⟨g, i, none⟩ = false
theorem IxN.below {w w' : World} {g n B : Nat} {P : Nat → Nat} (h : IxN w g n P) (hb : Below B w w') (hB : g < B) : IxN w' g n P := fun i hi =>
  ⟨(hb.cell (p := ⟨g, _, none⟩) hB).trans (h i hi).1, (hb.frozen (p := ⟨g, _, none⟩) hB).trans (h i hi).2⟩
theorem IxN.set {w : World} {g n : Nat} {P : Nat → Nat} (h : IxN w g n P) {k : Nat} (hk : k < n) (b : Nat) : IxN (w.setCell ⟨g, k, none⟩ (.int .i64 b)) g n (fun i => if i = k then b else P i) := fun i hi => by
  obtain ⟨h1, h2⟩ := h i hi
  refine ⟨?_, (World.frozen?_setCell _ _ _ _).trans h2⟩
  by_cases he : i = k
  · subst he
    simp [go_sem, h1]
  · simp only [if_neg he]
    rw [World.cell?_setCell_other _ _ _ _ (by intro e; injection e with _ e2; omega)]
    exact h1
theorem IxN.congr {w : World} {g n : Nat} {P Q : Nat → Nat} (h : IxN w g n P) (hq : ∀ i, i < n → P i = Q i) : IxN w g n Q := fun i hi => by rw [← hq i hi]; exact h i hi
theorem ixn_new (W : World) (n : Nat) (P : Nat → Nat) (hP : ∀ i, i < n → P i = 0) : IxN (W.alloc (.cells (madeCells #[.int .i64 0] n) 3)) W.heap.size n P := fun i hi => by
  have hN := World.alloc_heap_new W (.cells (madeCells #[.int .i64 0] n) 3)
  rw [hP i hi]
  generalize W.alloc (.cells (madeCells #[.int .i64 0] n) 3) = W2 at hN ⊢
  constructor
  · simp [World.cell?, hN, madeCells, hi, Nat.mod_one]
  · simp [World.frozen?, hN]
theorem made_six (W : World) : (Instr.makeSlice 41 (.int .i64 6) (.int .i64 6)).run Tryz.prog W = .ok (.slice (some ⟨W.heap.size, 0, none⟩) 6 6) (W.alloc (.cells (madeCells #[.int .i64 0] 6) 3)) := by
  obtain ⟨i, hi, hz⟩ : ∃ i, Tryz.prog.info? 3 = some i ∧ (i.zero, i.size, i.bytes) = (some (.int .i64 0), 1, 8) := by
    have : (Tryz.prog.info? 3).map (fun i => (i.zero, i.size, i.bytes)) = some (some (.int .i64 0), 1, 8) := by kernel_rfl
    cases hq : Tryz.prog.info? 3 with
    | none => rw [hq] at this; cases this
    | some i => rw [hq] at this; exact ⟨i, rfl, Option.some.inj this⟩
  simp only [Prod.mk.injEq] at hz
  obtain ⟨hz1, hz2, hz3⟩ := hz
  have := run_make (P := Tryz.prog) W 41 3 i _ (by kernel_rfl) hi hz1 .i64 .i64 6 6 (by omega) (Int.le_refl _) (by rw [hz3]; omega) (by omega)
  rw [hz2] at this
  simpa [Value.cells] using this
theorem countsL_of (l : List W4) (i : Nat) (x : Int) (h : (countsL l)[i]? = some x) : i < 6 ∧ x = (cntW l (i : Int) : Int) := by
  unfold countsL at h
  match i, h with
  | 0, h => simp at h; exact ⟨by omega, h.symm⟩
  | 1, h => simp at h; exact ⟨by omega, h.symm⟩
  | 2, h => simp at h; exact ⟨by omega, h.symm⟩
  | 3, h => simp at h; exact ⟨by omega, h.symm⟩
  | 4, h => simp at h; exact ⟨by omega, h.symm⟩
  | 5, h => simp at h; exact ⟨by omega, h.symm⟩
  | i + 6, h => simp at h
set_option maxRecDepth 100000 in
set_option maxHeartbeats 2000000 in
theorem tcnt_wrong (l : List W4) (v : Value) (w : World) (hl : Wrs w v l) (h0 : evchk l ≠ 0) :
    Calls Tryz.prog 15 #[v] w fun e w' => e = .returned (.tuple #[.slice none 0 0, wErr (evchk l)]) ∧ Below w.heap.size w w' := by
  have q := evcheck_any l v w hl
  rw [wErr_not h0] at q ⊢
  generalize evchk l = z at q ⊢
  clear hl h0
  go_enter Tryz.func15, Tryz.ntmps15
  go_wp2_with (go_at_call 35; refine q.mono ?_; rintro e w1 ⟨rfl, b1⟩; clear q)
  go_ret2
  exact ⟨rfl, b1⟩
set_option maxRecDepth 100000 in
set_option maxHeartbeats 4000000 in
theorem tcnt_ok (l : List W4) (v : Value) (w : World) (hl : Wrs w v l) (h0 : evchk l = 0) :
    Calls Tryz.prog 15 #[v] w fun e w' => ∃ u, e = .returned (.tuple #[u, .nilIface]) ∧ Stp w' u (countsL l) ∧ Below w.heap.size w w' := by
  have q := evcheck_any l v w hl
  rw [h0, show wErr 0 = .nilIface from rfl] at q
  obtain ⟨hlen, hgood⟩ := evchk_zero.1 h0
  have HK : Hid (∀ e ∈ l, evBad e = 0) := hgood
  obtain ⟨ao, cap, rfl⟩ := hl.form
  have HL : Hid (Wrs w (.slice ao l.length cap) l) := hl
  have hmk := made_six
  clear hl h0 hgood
  go_enter Tryz.func15, Tryz.ntmps15
  go_wp2_with (go_at_call 35; refine q.mono ?_; rintro e w1 ⟨rfl, b1⟩; clear q)
  clear hmk
  have HI := ixn_new w1 6 (fun j => cntW (l.take 0) (j : Int)) (fun i _ => by simp [cntW])
  generalize hW : w1.alloc (.cells (madeCells #[.int .i64 0] 6) 3) = w2 at HI ⊢
  have b2 : Below w.heap.size w w2 := by rw [← hW]; exact b1.alloc b1.size _
  have s2 : w1.heap.size < w2.heap.size := by rw [← hW]; simp
  have HI2 : Hid (IxN w2 w1.heap.size 6 (fun j => cntW (l.take 0) (j : Int))) := HI
  clear hW HI
  go_loopw [16] (fun i wr => ∃ k : Nat, k ≤ l.length ∧ i = .int .i64 k ∧ Hid (IxN wr w1.heap.size 6 (fun j => cntW (l.take k) (j : Int))) ∧ Below w.heap.size w wr ∧ w1.heap.size < wr.heap.size) (fun i _ => l.length - (intOf i).toNat)
  case atStart => exact ⟨0, Nat.zero_le _, rfl, HI2, b2, s2⟩
  case round =>
    clear HI2
    obtain ⟨k, hk, rfl, HI, hb, hsz⟩ := hrel
    have hb1 := b1.size
    by_cases hkl : k < l.length
    · obtain ⟨b, off, x0, x1, x2, x3, rfl, hlt, hx, c0, c1, c2, c3⟩ := HL.out.at hkl
      replace c0 := (hb.cell (p := ⟨b, _, none⟩) hlt).trans c0
      replace c1 := (hb.cell (p := ⟨b, _, none⟩) hlt).trans c1
      replace c2 := (hb.cell (p := ⟨b, _, none⟩) hlt).trans c2
      replace c3 := (hb.cell (p := ⟨b, _, none⟩) hlt).trans c3
      obtain ⟨_, _, _, hd, _⟩ := evBad_zero (HK.out _ (List.mem_of_getElem? hx))
      obtain ⟨m, rfl⟩ : ∃ m : Nat, x3 = m := ⟨x3.toNat, by simp only at hd; omega⟩
      have hm : m < 6 := by simp only at hd; omega
      have HN : Hid (∀ j : Nat, cntW (l.take (k + 1)) (j : Int) = cntW (l.take k) (j : Int) + if m = j then 1 else 0) := fun j => by
        rw [cntW_next hx]
        simp only [Int.natCast_inj]
      have hle := cntW_take_le l k (m : Int)
      obtain ⟨d0, f0⟩ := HI.out m hm
      simp only at d0
      obtain ⟨C, hC⟩ : ∃ C, cntW (l.take k) (m : Int) = C := ⟨_, rfl⟩
      have I1 : IxN (wr.setCell ⟨w1.heap.size, m, none⟩ (.int .i64 ((C : Int) + 1))) w1.heap.size 6 (fun j => cntW (l.take (k + 1)) (j : Int)) := by
        refine (HI.out.set hm (C + 1)).congr (fun i hi => ?_)
        rw [HN.out i]
        by_cases he : i = m
        · subst he; rw [if_pos rfl, if_pos rfl, hC]
        · rw [if_neg he, if_neg (fun e => he e.symm)]; rfl
      have z1 : (wr.setCell ⟨w1.heap.size, m, none⟩ (.int .i64 ((C : Int) + 1))).heap.size = wr.heap.size := by simp [World.setCell]
      have I8 : Hid (IxN ((wr.setCell ⟨w1.heap.size, m, none⟩ (.int .i64 ((C : Int) + 1))).alloc (.cells #[.int .i64 x0, .int .i64 x1, .int .i64 x2, .int .i64 m] 32)) w1.heap.size 6 (fun j => cntW (l.take (k + 1)) (j : Int))) := I1.below ((Below.refl _ _).alloc (Nat.le_refl _) _) (by omega)
      have B8 : Below w.heap.size w ((wr.setCell ⟨w1.heap.size, m, none⟩ (.int .i64 ((C : Int) + 1))).alloc (.cells #[.int .i64 x0, .int .i64 x1, .int .i64 x2, .int .i64 m] 32)) := (hb.setCell (p := ⟨w1.heap.size, m, none⟩) hb1 _).alloc (by rw [z1]; exact hb.size) _
      have S8 : w1.heap.size < ((wr.setCell ⟨w1.heap.size, m, none⟩ (.int .i64 ((C : Int) + 1))).alloc (.cells #[.int .i64 x0, .int .i64 x1, .int .i64 x2, .int .i64 m] 32)).heap.size := by rw [World.size_alloc, z1]; omega
      rw [hC] at d0 hle
      have hmi : (m : Int) < 6 := by omega
      clear hx hd HN I1 z1 HI hC HK
      go_wp2
      go_roundw
      case rel => exact ⟨k + 1, by omega, by go_num, I8, B8, S8⟩
      case measure => simp [intOf]; omega
    · obtain rfl : k = l.length := by omega
      have HS : Hid (Stp wr (.slice (some ⟨w1.heap.size, 0, none⟩) 6 6) (countsL l)) := by
        refine Or.inr ⟨_, 0, 6, rfl, hsz, fun i x hx => ?_⟩
        obtain ⟨hi, rfl⟩ := countsL_of l i x hx
        have := (HI.out i hi).1
        rw [List.take_length] at this
        simpa using this
      clear HI HL HK
      go_wp2
      go_ret2
      exact ⟨_, rfl, HS.out, hb⟩
/-- Counts does what the laws of traces ask of it. -/
theorem trc_counts (G : World → Prop) : TrcCounts G := fun l v W _ hl => by
  by_cases h0 : evchk l = 0
  · unfold countsV
    rw [h0, if_pos rfl]
    exact tcnt_ok l v W hl h0
  · unfold countsV
    rw [if_neg h0]
    refine (tcnt_wrong l v W hl h0).mono ?_
    rintro e w' ⟨rfl, hb⟩
    exact ⟨_, rfl, Or.inl ⟨rfl, _, _, rfl⟩, hb⟩
end Go.Proofs.YtkoomlnndnjllahGreatDoor
namespace Go.Proofs.YtkoomlnndnjllahGreatDoor
open Go.RowKit

theorem ofR_next {l : List W4} {k : Nat} {e : W4} (h : l[k]? = some e) (r : Int) : ofR (l.take (k + 1)) r = if e.2.1 = r then ofR (l.take k) r ++ [e] else ofR (l.take k) r := by
  obtain ⟨hk, rfl⟩ := List.getElem?_eq_some_iff.1 h
  rw [List.take_succ_eq_append_getElem hk]
  unfold ofR
  rw [List.filter_append]
  by_cases h2 : (l[k]).2.1 = r
  · rw [if_pos h2]; simp [h2]
  · rw [if_neg h2]; simp [h2]
theorem ofR_take_le (l : List W4) (k : Nat) (r : Int) : (ofR (l.take k) r).length ≤ l.length := by
  unfold ofR
  have h1 := List.length_filter_le (fun e : W4 => decide (e.2.1 = r)) (l.take k)
  have h2 : (l.take k).length ≤ l.length := by simp; omega
  omega
set_option maxRecDepth 100000 in
set_option maxHeartbeats 2000000 in
theorem tof_wrong (l : List W4) (v : Value) (r : Int) (w : World) (hl : Wrs w v l) (h0 : evchk l ≠ 0) :
    Calls Tryz.prog 17 #[v, .int .i64 r] w fun e w' => e = .returned (.tuple #[.slice none 0 0, wErr (evchk l)]) ∧ Below w.heap.size w w' := by
  have q := evcheck_any l v w hl
  rw [wErr_not h0] at q ⊢
  generalize evchk l = z at q ⊢
  clear hl h0
  go_enter Tryz.func17, Tryz.ntmps17
  go_wp2_with (go_at_call 35; refine q.mono ?_; rintro e w1 ⟨rfl, b1⟩; clear q)
  go_ret2
  exact ⟨rfl, b1⟩
set_option maxRecDepth 100000 in
set_option maxHeartbeats 2000000 in
theorem tof_room (l : List W4) (v : Value) (r : Int) (w : World) (hl : Wrs w v l) (h0 : evchk l = 0) (hr : r < -1 ∨ 4 < r) :
    Calls Tryz.prog 17 #[v, .int .i64 r] w fun e w' => e = .returned (.tuple #[.slice none 0 0, wErr 1]) ∧ Below w.heap.size w w' := by
  have q := evcheck_any l v w hl
  rw [h0, show wErr 0 = .nilIface from rfl] at q
  have hwi : wiB r (-1) 4 = false := by
    unfold wiB
    rcases hr with h | h
    · rw [decide_eq_false (show ¬ -1 ≤ r by omega)]; rfl
    · rw [decide_eq_false (show ¬ r ≤ 4 by omega)]; simp
  have q2 := fun w => trroom_of hwi w
  clear hl h0 hr hwi
  go_enter Tryz.func17, Tryz.ntmps17
  go_wp2_with (first | (go_at_call 35; refine q.mono ?_; rintro e w1 ⟨rfl, b1⟩; clear q) | (go_at_call 39; refine (q2 _).mono ?_; rintro e w2 ⟨rfl, hw2⟩; obtain rfl := hw2.symm))
  go_ret2
  exact ⟨rfl, b1⟩
set_option maxRecDepth 100000 in
set_option maxHeartbeats 4000000 in
theorem tof_ok (l : List W4) (v : Value) (r : Int) (w : World) (hl : Wrs w v l) (h0 : evchk l = 0) (hr : -1 ≤ r ∧ r ≤ 4) :
    Calls Tryz.prog 17 #[v, .int .i64 r] w fun e w' => ∃ u, e = .returned (.tuple #[u, .nilIface]) ∧ Wrs w' u (ofR l r) ∧ Below w.heap.size w w' := by
  obtain ⟨jj, hj, hy0, hy1, hy2⟩ := info_parts infoEv
  have q := evcheck_any l v w hl
  rw [h0, show wErr 0 = .nilIface from rfl] at q
  have hwi : wiB r (-1) 4 = true := by
    unfold wiB
    rw [decide_eq_true (show -1 ≤ r by omega), decide_eq_true (show r ≤ 4 by omega)]; rfl
  have q2 := fun w => trroom_of hwi w
  have hlen := (evchk_zero.1 h0).1
  obtain ⟨ao, cap, rfl⟩ := hl.form
  have HL : Hid (Wrs w (.slice ao l.length cap) l) := hl
  clear hl h0 hr hwi
  go_enter Tryz.func17, Tryz.ntmps17
  go_wp2_with (first | (go_at_call 35; refine q.mono ?_; rintro e w1 ⟨rfl, b1⟩; clear q) | (go_at_call 39; refine (q2 _).mono ?_; rintro e w2 ⟨rfl, hw2⟩; obtain rfl := hw2.symm))
  clear q2
  go_loopw [7, 21] (fun v i wr => ∃ k : Nat, k ≤ l.length ∧ i = .int .i64 k ∧ Hid (wr.ownsRow w1.heap.size 32 4 v (ofR (l.take k) r).length (wrCells (ofR (l.take k) r))) ∧ Below w.heap.size w wr ∧ w1.heap.size ≤ wr.heap.size) (fun _ i _ => l.length - (intOf i).toNat)
  case atStart => exact ⟨0, Nat.zero_le _, rfl, World.ownsRow_nil _ _ _ _, b1, Nat.le_refl _⟩
  case round =>
    obtain ⟨k, hk, rfl, HO, hb, hsz⟩ := hrel
    obtain ⟨vo, vk, hvf⟩ := own4_form HO.out
    subst hvf
    have hb1 := b1.size
    by_cases hkl : k < l.length
    · obtain ⟨b, off, x0, x1, x2, x3, rfl, hlt, hx, c0, c1, c2, c3⟩ := HL.out.at hkl
      have HX : Hid (l[k]? = some (x0, x1, x2, x3)) := hx
      replace c0 := (hb.cell (p := ⟨b, _, none⟩) hlt).trans c0
      replace c1 := (hb.cell (p := ⟨b, _, none⟩) hlt).trans c1
      replace c2 := (hb.cell (p := ⟨b, _, none⟩) hlt).trans c2
      replace c3 := (hb.cell (p := ⟨b, _, none⟩) hlt).trans c3
      have hle := ofR_take_le l k r
      have HN := ofR_next hx r
      have ba : Below w.heap.size w (wr.alloc (.cells #[.int .i64 x0, .int .i64 x1, .int .i64 x2, .int .i64 x3] 32)) := hb.alloc hb.size _
      clear hx
      by_cases hz : x1 = r
      · have HE : Hid (ofR (l.take (k + 1)) r = ofR (l.take k) r ++ [(x0, x1, x2, x3)]) := by show _ = _; rw [HN, if_pos hz]
        have hbq : (x1 == r) = true := by simpa using hz
        have own3 := HO.out
        obtain ⟨L, hL⟩ : ∃ L, ofR (l.take k) r = L := ⟨_, rfl⟩
        rw [hL] at own3 HE hle ⊢
        clear HN hz HO hL
        go_wp2_with (at_builtin; refine wpList_append_at _ rfl _ _ 27 rfl w1.heap.size 32 jj _ 4 32 Tryz.underlying27 hj hy0 hy1 hy2 rfl (by decide) _ _ _ rfl ((own3.alloc _).alloc _) ⟨wr.heap.size + 1, 0, none⟩ 1 1 [.int .i64 x0, .int .i64 x1, .int .i64 x2, .int .i64 x3] rfl rfl ?c1A ?c2A ?c3A ?c4A ?c5A ?_)
        case c1A => exact wr_new (by simp) _ _ _ _ _
        case c2A => exact four_one _ _ _ _
        case c3A => unfold maxLen; omega
        case c4A => omega
        case c5A => simp; omega
        intro v1 w8 own8 hg8 hnw8
        have B8 : Below w.heap.size w w8 := (ba.alloc (by simp; have := hb.size; omega) _).grown hg8 (by simp; have := hb.size; omega) (fun g hg => Nat.le_trans hb1 (own3.lt g hg).1)
        have S8 : w1.heap.size ≤ w8.heap.size := Nat.le_trans (by simp; omega) hg8.size
        have O8 : Hid (w8.ownsRow w1.heap.size 32 4 v1 (ofR (l.take (k + 1)) r).length (wrCells (ofR (l.take (k + 1)) r))) := by
          show World.ownsRow _ _ _ _ _ _ _
          rw [HE.out, wrCells_snoc, List.length_append]
          exact own8
        clear own8 hg8 hnw8 own3
        go_wp2
        go_roundw
        case rel => exact ⟨k + 1, by omega, by go_num, O8, B8, S8⟩
        case measure => simp [intOf]; omega
      · have HE : Hid (ofR (l.take (k + 1)) r = ofR (l.take k) r) := by show _ = _; rw [HN, if_neg hz]
        have hbq : (x1 == r) = false := by simpa using hz
        have O8 : Hid ((wr.alloc (.cells #[.int .i64 x0, .int .i64 x1, .int .i64 x2, .int .i64 x3] 32)).ownsRow w1.heap.size 32 4 (.slice vo (ofR (l.take k) r).length vk) (ofR (l.take (k + 1)) r).length (wrCells (ofR (l.take (k + 1)) r))) := by
          show World.ownsRow _ _ _ _ _ _ _
          rw [HE.out]
          exact HO.out.alloc _
        have S8 : w1.heap.size ≤ (wr.alloc (.cells #[.int .i64 x0, .int .i64 x1, .int .i64 x2, .int .i64 x3] 32)).heap.size := by simp; omega
        obtain ⟨L, hL⟩ : ∃ L, ofR (l.take k) r = L := ⟨_, rfl⟩
        rw [hL] at O8 ⊢
        clear HN hz HO hL
        go_wp2
        go_roundw
        case rel => exact ⟨k + 1, by omega, by go_num, O8, ba, S8⟩
        case measure => simp [intOf]; omega
    · obtain rfl : k = l.length := by omega
      have HS : Hid (Wrs wr (.slice vo (ofR (l.take l.length) r).length vk) (ofR l r)) := by
        have := evs_of_own HO.out
        rw [List.take_length] at this ⊢
        exact this
      obtain ⟨L, hL⟩ : ∃ L, ofR (l.take l.length) r = L := ⟨_, rfl⟩
      rw [hL] at HS ⊢
      clear HO HL hL
      go_wp2
      go_ret2
      exact ⟨_, rfl, HS.out, hb⟩
/-- Of does what the laws of traces ask of it. -/
theorem trc_of (G : World → Prop) : TrcOf G := fun l v r W _ hl => by
  by_cases h0 : evchk l = 0
  · by_cases hr : r < -1 ∨ 4 < r
    · have he : ofE l r = 1 := by unfold ofE; rw [if_pos h0, if_pos hr]
      unfold ofV
      rw [he]
      refine (tof_room l v r W hl h0 hr).mono ?_
      rintro e w' ⟨rfl, hb⟩
      exact ⟨_, rfl, Or.inl ⟨rfl, _, _, rfl⟩, hb⟩
    · have he : ofE l r = 0 := by unfold ofE; rw [if_pos h0, if_neg hr]
      unfold ofV
      rw [he, if_pos rfl]
      exact tof_ok l v r W hl h0 (by omega)
  · have he : ofE l r = evchk l := by unfold ofE; rw [if_neg h0]
    unfold ofV
    rw [he, if_neg h0]
    refine (tof_wrong l v r W hl h0).mono ?_
    rintro e w' ⟨rfl, hb⟩
    exact ⟨_, rfl, Or.inl ⟨rfl, _, _, rfl⟩, hb⟩
end Go.Proofs.YtkoomlnndnjllahGreatDoor
namespace Go.Proofs.YtkoomlnndnjllahGreatDoor
open Go.ChangeShapes Go.WideShapes Go.ChangeAt Go.WideElems Go.RowKit

theorem own : ownKnob Tryz.prog.godebug = none := by kernel_rfl
theorem laidOut : laidOutB Tryz.prog = true := by kernel_rfl
theorem trodAll_below {H : Type} {enc : TypeId × Value → H} {P : Program} (hlo : laidOutB P = true) {W W' : World} (hb : Below W.heap.size W W') (ts : List TypeId) : ∀ {vs : List Value} {ds : List (DataW H)} {ps : List MemPlace},
    (ts.all fun t => P.readableRec t && decide (t < P.types.size)) = true → DataW.TrodAll enc P W 0 (fun _ => true) true ts vs ds ps → (∀ x ∈ ps, x.block < W.heap.size) →
    DataW.TrodAll enc P W' 0 (fun b => decide (b < W.heap.size)) true ts vs ds ps := by
  induction ts with
  | nil =>
    intro vs ds ps _ h _
    cases vs <;> cases ds <;> exact h
  | cons t ts ih =>
    intro vs ds ps ht h hl
    cases vs with
    | nil => exact h.elim
    | cons v vs =>
      cases ds with
      | nil => exact h.elim
      | cons d ds =>
        obtain ⟨p, q, h1, h2, rfl⟩ := h
        simp only [List.all_cons, Bool.and_eq_true, decide_eq_true_eq] at ht
        exact ⟨p, q, Below.trod hlo ht.1.1 ht.1.2 h1 hb (fun x hx => hl x (by simp [hx])), ih (by simpa using ht.2) h2 (fun x hx => hl x (by simp [hx])), rfl⟩

theorem law_post {H : Type} {enc : TypeId × Value → H} {f : Func} {s : ChangeSpec} {W W' : World} {args : Array Value} {ds gs : List (DataW H)} {before : List MemPlace}
    (hf : f.resultTypes = #[4]) (hts : (f.params.toList.all fun t => Tryz.prog.readableRec t && decide (t < Tryz.prog.types.size)) = true) (hsv : s.vars = [])
    (hW : DataW.Whole enc Tryz.prog f.params.toList s.vars false W args.toList ds gs before) (hs : s.fn H (ds ++ gs) = { results := [.lit (.bool true)], args := ds }) (hb : Below W.heap.size W W') :
    s.post enc Tryz.prog f false true false false W args (.bool true) W' := by
  have hW' := hW
  obtain ⟨p, q, hA, hV, rfl, hfz, hnd⟩ := hW
  have hlt : ∀ x ∈ p, x.block < W.heap.size := fun x hx => by simpa using hW'.lt x (by simp [hx])
  refine ⟨ds, gs, p ++ q, [], p, [], hW', ?_, ?_, ?_, hb.frame _, fun h => by cases h⟩
  · rw [hs, hf]
    exact trodAll_cons_mk (shut_bool Tryz.underlying4 _) trodAll_mk0
  · rw [hs]
    exact trodAll_below laidOut hb _ hts hA hlt
  · rw [hs, hsv]
    rfl
end Go.Proofs.YtkoomlnndnjllahGreatDoor
namespace Go.Proofs.YtkoomlnndnjllahGreatDoor
open Go.ChangeShapes Go.WideShapes Go.ChangeAt Go.WideElems Go.RowKit Go.Deep

set_option maxRecDepth 100000 in
theorem open_wire {H : Type} {enc : TypeId × Value → H} {W : World} {base b0 : Nat} {sp : Nat → Bool} {held : Bool} {r : Reach} {v : Value} {d : DataW H} {p : List MemPlace} (hv : Value.okWide Tryz.prog W r b0 67 v)
    (h : DataW.Trod enc Tryz.prog W base sp held 67 v d p) : ∃ f t k q : Int, v = wV f t k q := by
  obtain ⟨v0, v1, v2, v3, y0, y1, y2, y3, m, rfl, _, _, h0, h1, h2, h3⟩ := Joins.open_agg4 Tryz.underlying67 (by kernel_rfl) (by kernel_rfl) hv h
  obtain ⟨n, e0, _, _⟩ := DataW.trod_int Tryz.underlying3 h0
  obtain ⟨a, e1, _, _⟩ := DataW.trod_int Tryz.underlying3 h1
  obtain ⟨b, e2, _, _⟩ := DataW.trod_int Tryz.underlying3 h2
  obtain ⟨c, e3, _, _⟩ := DataW.trod_int Tryz.underlying3 h3
  simp only [List.cons.injEq, and_true] at e0 e1 e2 e3
  subst e0; subst e1; subst e2; subst e3
  exact ⟨n, a, b, c, rfl⟩
theorem spot_none {W : World} {a : Addr} {v : Value} (h : W.cell? a = some v) : a = ⟨a.block, a.off, none⟩ ∧ a.block < W.heap.size := by
  obtain ⟨b, o, s⟩ := a
  unfold World.cell? at h
  simp only at h
  cases hb : W.heap[b]? with
  | none => rw [hb] at h; cases h
  | some x =>
    rw [hb] at h
    refine ⟨?_, (Array.getElem?_eq_some_iff.1 hb).1⟩
    cases x <;> simp at h
    cases s with
    | none => rfl
    | some s => simp at h
set_option maxRecDepth 100000 in
theorem open_stp {H : Type} {enc : TypeId × Value → H} {W : World} {b0 : Nat} {r : Reach} {v : Value} {d : DataW H} {p : List MemPlace} (hv : Value.okWide Tryz.prog W r b0 41 v)
    (h : DataW.Trod enc Tryz.prog W 0 (fun _ => true) true 41 v d p) : ∃ l : List Int, Stp W v l := by
  obtain ⟨a0, len0, cap0, rfl⟩ := okWide_slice Tryz.underlying41 hv
  obtain ⟨fuel, hf⟩ := h
  rcases open_ints Tryz.underlying41 Tryz.underlying3 (by kernel_rfl) hf with ⟨hcs, _⟩ | ⟨a, len, cap, zs, hcs, _, hl, _, hz, _, hc, _⟩
  · simp [Value.cells] at hcs
    obtain ⟨rfl, rfl, rfl⟩ := hcs
    exact ⟨[], Or.inl ⟨rfl, _, _, rfl⟩⟩
  · simp [Value.cells] at hcs
    obtain ⟨rfl, rfl, rfl⟩ := hcs
    have hlz : len0 ≤ zs.length := by rw [hz]; simpa using hl
    by_cases h0 : len0 = 0
    · subst h0
      exact ⟨[], Or.inl ⟨rfl, _, _, rfl⟩⟩
    · have hz0 := hc 0 (by omega)
      rw [show a.add 0 = a from by simp [Addr.add]] at hz0
      obtain ⟨ha, hlt⟩ := spot_none hz0
      have hlen : (zs.take len0).length = len0 := by rw [List.length_take]; omega
      refine ⟨zs.take len0, Or.inr ⟨a.block, a.off, cap0, by rw [hlen, ← ha], hlt, fun i x hx => ?_⟩⟩
      have hi : i < len0 := by
        have := (List.getElem?_eq_some_iff.1 hx).1
        omega
      have h1 := hc i (by omega)
      rw [ha, Addr.add_lit] at h1
      rw [List.getElem?_take, if_pos hi] at hx
      rw [List.getD_eq_getElem?_getD, hx] at h1
      exact h1
end Go.Proofs.YtkoomlnndnjllahGreatDoor
namespace Go.Proofs.YtkoomlnndnjllahGreatDoor
open Go.ChangeShapes Go.WideShapes Go.ChangeAt Go.WideElems Go.RowKit Go.Deep

theorem cWire : Tryz.prog.cellsOf 67 = 4 := by kernel_rfl
theorem cOne : Tryz.prog.cellsOf 3 = 1 := by kernel_rfl
set_option maxRecDepth 100000 in
theorem wr_cells {H : Type} {enc : TypeId × Value → H} {W : World} {base : Nat} {sp : Nat → Bool} {held : Bool} {fuel : Nat} {cs : List Value} {x : DataW H × List MemPlace}
    (h : DataW.trod enc Tryz.prog W base sp held fuel 67 cs = some x) : ∃ o : W4, cs = [.int .i64 o.1, .int .i64 o.2.1, .int .i64 o.2.2.1, .int .i64 o.2.2.2] := by
  obtain ⟨y0, y1, y2, y3, n, _, hl, h0, h1, h2, h3⟩ := Joins.trod_struct4 Tryz.underlying67 h
  rw [cWire] at hl
  match cs, hl with
  | [c0, c1, c2, c3], _ =>
    simp only [cOne] at h0 h1 h2 h3
    simp at h0 h1 h2 h3
    obtain ⟨n, e0, _, _⟩ := DataW.trod_int Tryz.underlying3 h0
    obtain ⟨a, e1, _, _⟩ := DataW.trod_int Tryz.underlying3 h1
    obtain ⟨b, e2, _, _⟩ := DataW.trod_int Tryz.underlying3 h2
    obtain ⟨c, e3, _, _⟩ := DataW.trod_int Tryz.underlying3 h3
    simp only [List.cons.injEq, and_true] at e0 e1 e2 e3
    subst e0; subst e1; subst e2; subst e3
    exact ⟨(n, a, b, c), rfl⟩
theorem pick_lt {α : Type} [Inhabited α] {p : Nat → α → Prop} {n : Nat} (h : ∀ i, i < n → ∃ x, p i x) : ∃ f : Nat → α, ∀ i, i < n → p i (f i) := by
  refine ⟨fun i => if hi : i < n then (h i hi).choose else default, fun i hi => ?_⟩
  simp only [hi, dif_pos]
  exact (h i hi).choose_spec
set_option maxRecDepth 100000 in
theorem open_wrs {H : Type} {enc : TypeId × Value → H} {W : World} {b0 : Nat} {r : Reach} {v : Value} {d : DataW H} {p : List MemPlace} (hv : Value.okWide Tryz.prog W r b0 24 v)
    (h : DataW.Trod enc Tryz.prog W 0 (fun _ => true) true 24 v d p) : ∃ l : List W4, Wrs W v l := by
  obtain ⟨a0, len0, cap0, rfl⟩ := okWide_slice Tryz.underlying24 hv
  obtain ⟨fuel, hf⟩ := h
  rcases open_slice Tryz.underlying24 hf with ⟨hcs, _⟩ | ⟨a, len, cap, m, n, D, Pl, hcs, _, hl, _, hm, hx, hel⟩
  · simp [Value.cells] at hcs
    obtain ⟨rfl, rfl, rfl⟩ := hcs
    exact ⟨[], Or.inl ⟨rfl, _, _, rfl⟩⟩
  · simp [Value.cells] at hcs
    obtain ⟨rfl, rfl, rfl⟩ := hcs
    have hlm : len0 ≤ m := by rw [hm]; simpa using hl
    have each : ∀ i, i < len0 → ∃ o : W4, W.cell? (a.add (i * 4)) = some (.int .i64 o.1) ∧ W.cell? ((a.add (i * 4)).add 1) = some (.int .i64 o.2.1) ∧ W.cell? ((a.add (i * 4)).add 2) = some (.int .i64 o.2.2.1) ∧ W.cell? ((a.add (i * 4)).add 3) = some (.int .i64 o.2.2.2) := fun i hi => by
      obtain ⟨cs', h1, h2⟩ := hel i (by omega)
      rw [cWire] at h1
      obtain ⟨o, rfl⟩ := wr_cells h2
      obtain ⟨_, _, hc⟩ := World.cells?_some h1
      exact ⟨o, by simpa [Addr.add] using hc 0 (by omega), hc 1 (by omega), hc 2 (by omega), hc 3 (by omega)⟩
    by_cases h0 : len0 = 0
    · subst h0
      exact ⟨[], Or.inl ⟨rfl, _, _, rfl⟩⟩
    · obtain ⟨f, hfo⟩ := pick_lt (α := W4) (p := fun i o => W.cell? (a.add (i * 4)) = some (.int .i64 o.1) ∧ W.cell? ((a.add (i * 4)).add 1) = some (.int .i64 o.2.1) ∧ W.cell? ((a.add (i * 4)).add 2) = some (.int .i64 o.2.2.1) ∧ W.cell? ((a.add (i * 4)).add 3) = some (.int .i64 o.2.2.2)) each
      have hz := (hfo 0 (by omega)).1
      rw [show a.add (0 * 4) = a from by simp [Addr.add]] at hz
      obtain ⟨ha, hlt⟩ := spot_none hz
      refine ⟨(List.range len0).map f, Or.inr ⟨a.block, a.off, cap0, by rw [List.length_map, List.length_range, ← ha], by simpa using hl, hlt, fun i o ho => ?_⟩⟩
      have hi : i < len0 := by
        have := (List.getElem?_eq_some_iff.1 ho).1
        simpa using this
      have hoi : f i = o := by simpa [hi] using ho
      obtain ⟨h1, h2, h3, h4⟩ := hfo i hi
      rw [hoi] at h1 h2 h3 h4
      rw [ha] at h1 h2 h3 h4
      simp only [Addr.add_lit] at h1 h2 h3 h4
      exact ⟨h1, h2, h3, h4⟩
end Go.Proofs.YtkoomlnndnjllahGreatDoor
namespace Go.Proofs.YtkoomlnndnjllahGreatDoor
open Go.ChangeShapes Go.WideShapes Go.ChangeAt Go.WideElems Go.RowKit Go.Deep

theorem cEvent : Tryz.prog.cellsOf 32 = 4 := by kernel_rfl
set_option maxRecDepth 100000 in
theorem evo_cells {H : Type} {enc : TypeId × Value → H} {W : World} {base : Nat} {sp : Nat → Bool} {held : Bool} {fuel : Nat} {cs : List Value} {x : DataW H × List MemPlace}
    (h : DataW.trod enc Tryz.prog W base sp held fuel 32 cs = some x) : ∃ o : W4, cs = [.int .i64 o.1, .int .i64 o.2.1, .int .i64 o.2.2.1, .int .i64 o.2.2.2] := by
  obtain ⟨y0, y1, y2, y3, n, _, hl, h0, h1, h2, h3⟩ := Joins.trod_struct4 Tryz.underlying32 h
  rw [cEvent] at hl
  match cs, hl with
  | [c0, c1, c2, c3], _ =>
    simp only [cOne] at h0 h1 h2 h3
    simp at h0 h1 h2 h3
    obtain ⟨n, e0, _, _⟩ := DataW.trod_int Tryz.underlying3 h0
    obtain ⟨a, e1, _, _⟩ := DataW.trod_int Tryz.underlying3 h1
    obtain ⟨b, e2, _, _⟩ := DataW.trod_int Tryz.underlying3 h2
    obtain ⟨c, e3, _, _⟩ := DataW.trod_int Tryz.underlying3 h3
    simp only [List.cons.injEq, and_true] at e0 e1 e2 e3
    subst e0; subst e1; subst e2; subst e3
    exact ⟨(n, a, b, c), rfl⟩
set_option maxRecDepth 100000 in
theorem open_evs {H : Type} {enc : TypeId × Value → H} {W : World} {b0 : Nat} {r : Reach} {v : Value} {d : DataW H} {p : List MemPlace} (hv : Value.okWide Tryz.prog W r b0 27 v)
    (h : DataW.Trod enc Tryz.prog W 0 (fun _ => true) true 27 v d p) : ∃ l : List W4, Wrs W v l := by
  obtain ⟨a0, len0, cap0, rfl⟩ := okWide_slice Tryz.underlying27 hv
  obtain ⟨fuel, hf⟩ := h
  rcases open_slice Tryz.underlying27 hf with ⟨hcs, _⟩ | ⟨a, len, cap, m, n, D, Pl, hcs, _, hl, _, hm, hx, hel⟩
  · simp [Value.cells] at hcs
    obtain ⟨rfl, rfl, rfl⟩ := hcs
    exact ⟨[], Or.inl ⟨rfl, _, _, rfl⟩⟩
  · simp [Value.cells] at hcs
    obtain ⟨rfl, rfl, rfl⟩ := hcs
    have hlm : len0 ≤ m := by rw [hm]; simpa using hl
    have each : ∀ i, i < len0 → ∃ o : W4, W.cell? (a.add (i * 4)) = some (.int .i64 o.1) ∧ W.cell? ((a.add (i * 4)).add 1) = some (.int .i64 o.2.1) ∧ W.cell? ((a.add (i * 4)).add 2) = some (.int .i64 o.2.2.1) ∧ W.cell? ((a.add (i * 4)).add 3) = some (.int .i64 o.2.2.2) := fun i hi => by
      obtain ⟨cs', h1, h2⟩ := hel i (by omega)
      rw [cEvent] at h1
      obtain ⟨o, rfl⟩ := evo_cells h2
      obtain ⟨_, _, hc⟩ := World.cells?_some h1
      exact ⟨o, by simpa [Addr.add] using hc 0 (by omega), hc 1 (by omega), hc 2 (by omega), hc 3 (by omega)⟩
    by_cases h0 : len0 = 0
    · subst h0
      exact ⟨[], Or.inl ⟨rfl, _, _, rfl⟩⟩
    · obtain ⟨f, hfo⟩ := pick_lt (α := W4) (p := fun i o => W.cell? (a.add (i * 4)) = some (.int .i64 o.1) ∧ W.cell? ((a.add (i * 4)).add 1) = some (.int .i64 o.2.1) ∧ W.cell? ((a.add (i * 4)).add 2) = some (.int .i64 o.2.2.1) ∧ W.cell? ((a.add (i * 4)).add 3) = some (.int .i64 o.2.2.2)) each
      have hz := (hfo 0 (by omega)).1
      rw [show a.add (0 * 4) = a from by simp [Addr.add]] at hz
      obtain ⟨ha, hlt⟩ := spot_none hz
      refine ⟨(List.range len0).map f, Or.inr ⟨a.block, a.off, cap0, by rw [List.length_map, List.length_range, ← ha], by simpa using hl, hlt, fun i o ho => ?_⟩⟩
      have hi : i < len0 := by
        have := (List.getElem?_eq_some_iff.1 ho).1
        simpa using this
      have hoi : f i = o := by simpa [hi] using ho
      obtain ⟨h1, h2, h3, h4⟩ := hfo i hi
      rw [hoi] at h1 h2 h3 h4
      rw [ha] at h1 h2 h3 h4
      simp only [Addr.add_lit] at h1 h2 h3 h4
      exact ⟨h1, h2, h3, h4⟩
end Go.Proofs.YtkoomlnndnjllahGreatDoor
namespace Go.Proofs.YtkoomlnndnjllahGreatDoor
open Go.ChangeShapes

theorem trodAll_four {H : Type} {enc : TypeId × Value → H} {P : Program} {w : World} {base : Nat} {spare : Nat → Bool} {held : Bool} {t0 t1 t2 t3 : TypeId} {args : Array Value} {ds : List (DataW H)} {ps : List MemPlace} (h : DataW.TrodAll enc P w base spare held [t0, t1, t2, t3] args.toList ds ps) :
    ∃ v0 v1 v2 v3 d0 d1 d2 d3 p0 p1 p2 p3, args = #[v0, v1, v2, v3] ∧ ds = [d0, d1, d2, d3] ∧ DataW.Trod enc P w base spare held t0 v0 d0 p0 ∧ DataW.Trod enc P w base spare held t1 v1 d1 p1 ∧ DataW.Trod enc P w base spare held t2 v2 d2 p2 ∧ DataW.Trod enc P w base spare held t3 v3 d3 p3 := by
  obtain ⟨v0, vs0, d0, ds0, p0, q0, hargs, rfl, rfl, h0, r0⟩ := trodAll_cons h
  obtain ⟨v1, vs1, d1, ds1, p1, q1, rfl, rfl, rfl, h1, r1⟩ := trodAll_cons r0
  obtain ⟨v2, vs2, d2, ds2, p2, q2, rfl, rfl, rfl, h2, r2⟩ := trodAll_cons r1
  obtain ⟨v3, vs3, d3, ds3, p3, q3, rfl, rfl, rfl, h3, r3⟩ := trodAll_cons r2
  obtain ⟨rfl, rfl, rfl⟩ := trodAll_nil r3
  exact ⟨v0, v1, v2, v3, d0, d1, d2, d3, p0, p1, p2, p3, by cases args; simp_all, rfl, h0, h1, h2, h3⟩
theorem trodAll_five {H : Type} {enc : TypeId × Value → H} {P : Program} {w : World} {base : Nat} {spare : Nat → Bool} {held : Bool} {t0 t1 t2 t3 t4 : TypeId} {args : Array Value} {ds : List (DataW H)} {ps : List MemPlace} (h : DataW.TrodAll enc P w base spare held [t0, t1, t2, t3, t4] args.toList ds ps) :
    ∃ v0 v1 v2 v3 v4 d0 d1 d2 d3 d4 p0 p1 p2 p3 p4, args = #[v0, v1, v2, v3, v4] ∧ ds = [d0, d1, d2, d3, d4] ∧ DataW.Trod enc P w base spare held t0 v0 d0 p0 ∧ DataW.Trod enc P w base spare held t1 v1 d1 p1 ∧ DataW.Trod enc P w base spare held t2 v2 d2 p2 ∧ DataW.Trod enc P w base spare held t3 v3 d3 p3 ∧ DataW.Trod enc P w base spare held t4 v4 d4 p4 := by
  obtain ⟨v0, vs0, d0, ds0, p0, q0, hargs, rfl, rfl, h0, r0⟩ := trodAll_cons h
  obtain ⟨v1, vs1, d1, ds1, p1, q1, rfl, rfl, rfl, h1, r1⟩ := trodAll_cons r0
  obtain ⟨v2, vs2, d2, ds2, p2, q2, rfl, rfl, rfl, h2, r2⟩ := trodAll_cons r1
  obtain ⟨v3, vs3, d3, ds3, p3, q3, rfl, rfl, rfl, h3, r3⟩ := trodAll_cons r2
  obtain ⟨v4, vs4, d4, ds4, p4, q4, rfl, rfl, rfl, h4, r4⟩ := trodAll_cons r3
  obtain ⟨rfl, rfl, rfl⟩ := trodAll_nil r4
  exact ⟨v0, v1, v2, v3, v4, d0, d1, d2, d3, d4, p0, p1, p2, p3, p4, by cases args; simp_all, rfl, h0, h1, h2, h3, h4⟩
theorem trodAll_six {H : Type} {enc : TypeId × Value → H} {P : Program} {w : World} {base : Nat} {spare : Nat → Bool} {held : Bool} {t0 t1 t2 t3 t4 t5 : TypeId} {args : Array Value} {ds : List (DataW H)} {ps : List MemPlace} (h : DataW.TrodAll enc P w base spare held [t0, t1, t2, t3, t4, t5] args.toList ds ps) :
    ∃ v0 v1 v2 v3 v4 v5 d0 d1 d2 d3 d4 d5 p0 p1 p2 p3 p4 p5, args = #[v0, v1, v2, v3, v4, v5] ∧ ds = [d0, d1, d2, d3, d4, d5] ∧ DataW.Trod enc P w base spare held t0 v0 d0 p0 ∧ DataW.Trod enc P w base spare held t1 v1 d1 p1 ∧ DataW.Trod enc P w base spare held t2 v2 d2 p2 ∧ DataW.Trod enc P w base spare held t3 v3 d3 p3 ∧ DataW.Trod enc P w base spare held t4 v4 d4 p4 ∧ DataW.Trod enc P w base spare held t5 v5 d5 p5 := by
  obtain ⟨v0, vs0, d0, ds0, p0, q0, hargs, rfl, rfl, h0, r0⟩ := trodAll_cons h
  obtain ⟨v1, vs1, d1, ds1, p1, q1, rfl, rfl, rfl, h1, r1⟩ := trodAll_cons r0
  obtain ⟨v2, vs2, d2, ds2, p2, q2, rfl, rfl, rfl, h2, r2⟩ := trodAll_cons r1
  obtain ⟨v3, vs3, d3, ds3, p3, q3, rfl, rfl, rfl, h3, r3⟩ := trodAll_cons r2
  obtain ⟨v4, vs4, d4, ds4, p4, q4, rfl, rfl, rfl, h4, r4⟩ := trodAll_cons r3
  obtain ⟨v5, vs5, d5, ds5, p5, q5, rfl, rfl, rfl, h5, r5⟩ := trodAll_cons r4
  obtain ⟨rfl, rfl, rfl⟩ := trodAll_nil r5
  exact ⟨v0, v1, v2, v3, v4, v5, d0, d1, d2, d3, d4, d5, p0, p1, p2, p3, p4, p5, by cases args; simp_all, rfl, h0, h1, h2, h3, h4, h5⟩
theorem trodAll_seven {H : Type} {enc : TypeId × Value → H} {P : Program} {w : World} {base : Nat} {spare : Nat → Bool} {held : Bool} {t0 t1 t2 t3 t4 t5 t6 : TypeId} {args : Array Value} {ds : List (DataW H)} {ps : List MemPlace} (h : DataW.TrodAll enc P w base spare held [t0, t1, t2, t3, t4, t5, t6] args.toList ds ps) :
    ∃ v0 v1 v2 v3 v4 v5 v6 d0 d1 d2 d3 d4 d5 d6 p0 p1 p2 p3 p4 p5 p6, args = #[v0, v1, v2, v3, v4, v5, v6] ∧ ds = [d0, d1, d2, d3, d4, d5, d6] ∧ DataW.Trod enc P w base spare held t0 v0 d0 p0 ∧ DataW.Trod enc P w base spare held t1 v1 d1 p1 ∧ DataW.Trod enc P w base spare held t2 v2 d2 p2 ∧ DataW.Trod enc P w base spare held t3 v3 d3 p3 ∧ DataW.Trod enc P w base spare held t4 v4 d4 p4 ∧ DataW.Trod enc P w base spare held t5 v5 d5 p5 ∧ DataW.Trod enc P w base spare held t6 v6 d6 p6 := by
  obtain ⟨v0, vs0, d0, ds0, p0, q0, hargs, rfl, rfl, h0, r0⟩ := trodAll_cons h
  obtain ⟨v1, vs1, d1, ds1, p1, q1, rfl, rfl, rfl, h1, r1⟩ := trodAll_cons r0
  obtain ⟨v2, vs2, d2, ds2, p2, q2, rfl, rfl, rfl, h2, r2⟩ := trodAll_cons r1
  obtain ⟨v3, vs3, d3, ds3, p3, q3, rfl, rfl, rfl, h3, r3⟩ := trodAll_cons r2
  obtain ⟨v4, vs4, d4, ds4, p4, q4, rfl, rfl, rfl, h4, r4⟩ := trodAll_cons r3
  obtain ⟨v5, vs5, d5, ds5, p5, q5, rfl, rfl, rfl, h5, r5⟩ := trodAll_cons r4
  obtain ⟨v6, vs6, d6, ds6, p6, q6, rfl, rfl, rfl, h6, r6⟩ := trodAll_cons r5
  obtain ⟨rfl, rfl, rfl⟩ := trodAll_nil r6
  exact ⟨v0, v1, v2, v3, v4, v5, v6, d0, d1, d2, d3, d4, d5, d6, p0, p1, p2, p3, p4, p5, p6, by cases args; simp_all, rfl, h0, h1, h2, h3, h4, h5, h6⟩
end Go.Proofs.YtkoomlnndnjllahGreatDoor
