/-
  A word as a number, digit by digit: plain mathematics.
-/
import Derived.Test.YtfneffmiignapaaGreatDoorBackMath
namespace Go.Proofs.YtfneffmiignapaaGreatDoor

def isD (d : UInt8) : Prop := 48 ≤ d.toNat ∧ d.toNat ≤ 57
def valD (l : List UInt8) : Int := l.foldl (fun a d => a * 10 + (d.toNat : Int) - 48) 0
theorem valD_nil : valD [] = 0 := rfl
theorem valD_snoc (l : List UInt8) (d : UInt8) : valD (l ++ [d]) = valD l * 10 + (d.toNat : Int) - 48 := by simp [valD]
theorem u8_back {d : UInt8} (h : isD d) : UInt8.ofNat (48 + (d.toNat - 48)) = d := by
  have := h.1
  rw [show 48 + (d.toNat - 48) = d.toNat by omega]
  simp
theorem dec_step {q r : Nat} (hq : 1 ≤ q) (hr : r < 10) : Lib.decDigits (q * 10 + r) = Lib.decDigits q ++ [UInt8.ofNat (48 + r)] := by
  rw [Lib.decDigits, dif_neg (by omega)]
  rw [show (q * 10 + r) / 10 = q by omega, show (q * 10 + r) % 10 = r by omega]
theorem val_good : ∀ (k : Nat) (l : List UInt8), l.length = k → (∀ d ∈ l, isD d) → l ≠ [] → (l.head? = some 48 → l.length = 1) → 0 ≤ valD l ∧ Lib.decDigits (valD l).toNat = l ∧ (l.head? ≠ some 48 → 1 ≤ valD l)
  | 0, l, hl, _, hne, _ => absurd (List.eq_nil_of_length_eq_zero hl) hne
  | k + 1, l, hl, hd, hne, hh => by
    rcases List.eq_nil_or_concat l with rfl | ⟨m, d, rfl⟩
    · exact absurd rfl hne
    · have hdd : isD d := hd d (by simp)
      obtain ⟨h1, h2⟩ := hdd
      rw [List.concat_eq_append] at *
      rw [valD_snoc]
      by_cases hm : m = []
      · subst hm
        simp only [valD_nil, List.nil_append]
        refine ⟨by omega, ?_, ?_⟩
        · rw [show ((0 : Int) * 10 + (d.toNat : Int) - 48).toNat = d.toNat - 48 by omega, Lib.decDigits_one (by omega), u8_back ⟨h1, h2⟩]
        · intro hne48
          have : d.toNat ≠ 48 := fun e => hne48 (by simp; exact UInt8.toNat_inj.1 e)
          omega
      · have hhd : (m ++ [d]).head? = m.head? := by cases m with | nil => exact absurd rfl hm | cons x xs => rfl
        have hlm : m.length = k := by simpa using hl
        have hmp : 0 < m.length := List.length_pos_iff.2 hm
        have hm48 : m.head? ≠ some 48 := fun e => by
          have := hh (hhd.trans e)
          simp at this
          exact hm this
        obtain ⟨i1, i2, i3⟩ := val_good k m hlm (fun x hx => hd x (by simp [hx])) hm (fun e => absurd e hm48)
        have i4 := i3 hm48
        refine ⟨by omega, ?_, fun _ => by omega⟩
        have e : (valD m * 10 + (d.toNat : Int) - 48).toNat = (valD m).toNat * 10 + (d.toNat - 48) := by omega
        rw [e, dec_step (by omega) (by omega), i2, u8_back ⟨h1, h2⟩]
theorem dec_head (u : Nat) (h : (Lib.decDigits u).head? = some 48) : u = 0 := by
  induction u using Nat.strongRecOn with
  | _ u ih =>
    by_cases hu : u < 10
    · rw [Lib.decDigits_one hu] at h
      simp only [List.head?_cons, Option.some.injEq] at h
      have := congrArg UInt8.toNat h
      simp [UInt8.toNat_ofNat] at this
      omega
    · rw [Lib.decDigits, dif_neg hu] at h
      have hne := dec_ne (u / 10)
      have e : (Lib.decDigits (u / 10) ++ [UInt8.ofNat (48 + u % 10)]).head? = (Lib.decDigits (u / 10)).head? := by
        cases hx : Lib.decDigits (u / 10) with
        | nil => exact absurd hx hne
        | cons x xs => rfl
      have := ih (u / 10) (by omega) (e.symm.trans h)
      omega
theorem numB_form {l : List UInt8} {n : Int} (h : numB l = some n) : l.length ≤ 4 ∧ l = Lib.decDigits n.toNat := by
  obtain ⟨h1, h2, h3⟩ := numB_some h
  rw [itoa_pos h2] at h3
  exact ⟨h1, h3.symm⟩
theorem num_empty : numB [] = none := by
  cases h : numB [] with
  | none => rfl
  | some n => exact absurd (numB_form h).2.symm (dec_ne _)
theorem num_zero {l : List UInt8} (h0 : l.head? = some 48) (h1 : 1 < l.length) : numB l = none := by
  cases h : numB l with
  | none => rfl
  | some n =>
    have hl := (numB_form h).2
    have hz := dec_head n.toNat (by rw [← hl]; exact h0)
    rw [hz] at hl
    rw [hl, Lib.decDigits_one (by omega)] at h1
    simp at h1
theorem num_nodigit {l : List UInt8} {d : UInt8} (hm : d ∈ l) (hd : d.toNat < 48 ∨ 57 < d.toNat) : numB l = none := by
  cases h : numB l with
  | none => rfl
  | some n =>
    have hl := (numB_form h).2
    rw [hl] at hm
    have := dec_mem _ d hm
    omega
theorem num_good {l : List UInt8} (hd : ∀ d ∈ l, isD d) (hne : l ≠ []) (h4 : l.length ≤ 4) (hh : l.head? = some 48 → l.length = 1) : numB l = some (valD l) := by
  obtain ⟨h1, h2, _⟩ := val_good l.length l rfl hd hne hh
  have ha := atoi_dec (valD l).toNat
  rw [h2, show (((valD l).toNat : Nat) : Int) = valD l by omega] at ha
  exact numB_yes h4 ha h1 (by rw [itoa_pos h1]; exact h2)
theorem valD_le : ∀ (l : List UInt8), (∀ d ∈ l, isD d) → l.length ≤ 4 → 0 ≤ valD l ∧ valD l ≤ 9999
  | [], _, _ => by simp [valD_nil]
  | [a], h, _ => by have := h a (by simp); unfold isD at this; simp only [valD, List.foldl]; omega
  | [a, b], h, _ => by have := h a (by simp); have := h b (by simp); unfold isD at *; simp only [valD, List.foldl]; omega
  | [a, b, c], h, _ => by have := h a (by simp); have := h b (by simp); have := h c (by simp); unfold isD at *; simp only [valD, List.foldl]; omega
  | [a, b, c, d], h, _ => by have := h a (by simp); have := h b (by simp); have := h c (by simp); have := h d (by simp); unfold isD at *; simp only [valD, List.foldl]; omega
  | a :: b :: c :: d :: e :: l, _, h => by simp at h
end Go.Proofs.YtfneffmiignapaaGreatDoor
