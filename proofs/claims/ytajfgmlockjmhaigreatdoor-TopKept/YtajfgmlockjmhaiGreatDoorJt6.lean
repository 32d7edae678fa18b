/-
  Num7M, Num3M, Rd3M, LogT, LogK, LogRdG, LastIx, LogSt, Numb3, Numb7, LogSm, LogSy, SnpM, SnRdM, SnpK: joined into one text.
-/
import Derived.Test.YtajfgmlockjmhaiGreatDoorJt5
import Derived.Test.YtajfgmlockjmhaiGreatDoorJt1
import Derived.Test.YtajfgmlockjmhaiGreatDoorJt2
import Derived.Test.YtajfgmlockjmhaiGreatDoorJt3
import Derived.Lib.UnsafeStr
import Derived.Test.YtajfgmlockjmhaiGreatDoorJt4
import Derived.Deep.CutRange
import Derived.Deep.RegionWith
import Derived.BigQuiet
import Derived.RangeFuncNested
namespace Go.Proofs.YtajfgmlockjmhaiGreatDoor

/-- The number that a word of at most seven bytes is. -/
def numB7 (l : List UInt8) : Option Int :=
  if l.length ≤ 7 then match Lib.atoi l with
    | some n => if 0 ≤ n ∧ Lib.itoa n = l then some n else none
    | none => none
  else none
theorem numB7_long {l : List UInt8} (h : 7 < l.length) : numB7 l = none := by unfold numB7; rw [if_neg (by omega)]
theorem numB7_bad {l : List UInt8} (h : Lib.atoi l = none) : numB7 l = none := by unfold numB7; rw [h]; split <;> rfl
theorem numB7_neg {l : List UInt8} {n : Int} (h : Lib.atoi l = some n) (h0 : n < 0) : numB7 l = none := by
  unfold numB7; rw [h]; split
  · simp only; rw [if_neg (by omega)]
  · rfl
theorem numB7_other {l : List UInt8} {n : Int} (h : Lib.atoi l = some n) (h0 : Lib.itoa n ≠ l) : numB7 l = none := by
  unfold numB7; rw [h]; split
  · simp only; rw [if_neg (fun hh => h0 hh.2)]
  · rfl
theorem numB7_yes {l : List UInt8} {n : Int} (hl : l.length ≤ 7) (h : Lib.atoi l = some n) (h0 : 0 ≤ n) (h1 : Lib.itoa n = l) : numB7 l = some n := by
  unfold numB7; rw [if_pos hl, h]; simp only; rw [if_pos ⟨h0, h1⟩]
theorem numB7_some {l : List UInt8} {n : Int} (h : numB7 l = some n) : l.length ≤ 7 ∧ 0 ≤ n ∧ Lib.itoa n = l := by
  by_cases h1 : l.length ≤ 7
  · cases h2 : Lib.atoi l with
    | none => rw [numB7_bad h2] at h; cases h
    | some m =>
      by_cases h3 : 0 ≤ m
      · by_cases h4 : Lib.itoa m = l
        · rw [numB7_yes h1 h2 h3 h4] at h
          obtain rfl := Option.some.inj h
          exact ⟨h1, h3, h4⟩
        · rw [numB7_other h2 h4] at h; cases h
      · rw [numB7_neg h2 (by omega)] at h; cases h
  · rw [numB7_long (by omega)] at h; cases h
theorem numB7_form {l : List UInt8} {n : Int} (h : numB7 l = some n) : l.length ≤ 7 ∧ l = Lib.decDigits n.toNat := by
  obtain ⟨h1, h2, h3⟩ := numB7_some h
  rw [itoa_pos h2] at h3
  exact ⟨h1, h3.symm⟩
theorem num7_good {l : List UInt8} (hd : ∀ d ∈ l, isD d) (hne : l ≠ []) (h4 : l.length ≤ 7) (hh : l.head? = some 48 → l.length = 1) : numB7 l = some (valD l) := by
  obtain ⟨h1, h2, _⟩ := val_good l.length l rfl hd hne hh
  have ha := atoi_dec (valD l).toNat
  rw [h2, show (((valD l).toNat : Nat) : Int) = valD l by omega] at ha
  exact numB7_yes h4 ha h1 (by rw [itoa_pos h1]; exact h2)
theorem valD_pow : ∀ (k : Nat) (l : List UInt8), l.length = k → (∀ d ∈ l, isD d) → 0 ≤ valD l ∧ valD l < (10 : Int) ^ k
  | 0, l, h, _ => by
    have : l = [] := List.eq_nil_of_length_eq_zero h
    subst this
    rw [valD_nil]
    decide
  | k + 1, l, h, hd => by
    rcases List.eq_nil_or_concat l with e | ⟨l', d, e⟩
    · rw [e] at h; simp at h
    · rw [List.concat_eq_append] at e
      subst e
      rw [List.length_append, List.length_singleton] at h
      obtain ⟨h1, h2⟩ := valD_pow k l' (by omega) (fun x hx => hd x (List.mem_append_left _ hx))
      have h3 := hd d (List.mem_append_right _ (by simp))
      unfold isD at h3
      rw [valD_snoc, Int.pow_succ]
      omega
theorem valD_le7 (l : List UInt8) (hd : ∀ d ∈ l, isD d) (h : l.length ≤ 7) : 0 ≤ valD l ∧ valD l ≤ 9999999 := by
  obtain ⟨h1, h2⟩ := valD_pow l.length l rfl hd
  refine ⟨h1, ?_⟩
  have hc : l.length = 0 ∨ l.length = 1 ∨ l.length = 2 ∨ l.length = 3 ∨ l.length = 4 ∨ l.length = 5 ∨ l.length = 6 ∨ l.length = 7 := by omega
  rcases hc with e | e | e | e | e | e | e | e <;> (rw [e] at h2; simp at h2; omega)
theorem digK : ∀ (k u : Nat), u < 10 ^ (k + 1) → Lib.nDigits u ≤ k + 1
  | 0, u, h => by rw [Lib.nDigits_small (by simpa using h)]; omega
  | k + 1, u, h => by
    by_cases h1 : u < 10
    · rw [Lib.nDigits_small h1]; omega
    · rw [Lib.nDigits_big h1]
      have := digK k (u / 10) (by rw [Nat.pow_succ] at h; omega)
      omega
theorem dig7 {u : Nat} (h : u ≤ 9999999) : Lib.nDigits u ≤ 7 := digK 6 u (Nat.lt_of_le_of_lt h (by decide))
/-- A number of at most seven digits is read as it was. -/
theorem num7_itoa {z : Int} (h0 : 0 ≤ z) (h1 : z ≤ 9999999) : numB7 (Lib.itoa z) = some z := by
  obtain ⟨u, rfl⟩ : ∃ u : Nat, z = u := ⟨z.toNat, by omega⟩
  have hi : Lib.itoa (u : Int) = Lib.decDigits u := by rw [itoa_pos (by omega)]; simp
  rw [hi]
  refine numB7_yes ?_ (atoi_dec u) (by omega) hi
  have : u ≤ 9999999 := by omega
  rw [Lib.decDigits_length]
  exact dig7 this
end Go.Proofs.YtajfgmlockjmhaiGreatDoor
namespace Go.Proofs.YtajfgmlockjmhaiGreatDoor

/-- The number that a word of at most three bytes is. -/
def numB3 (l : List UInt8) : Option Int :=
  if l.length ≤ 3 then match Lib.atoi l with
    | some n => if 0 ≤ n ∧ Lib.itoa n = l then some n else none
    | none => none
  else none
theorem numB3_long {l : List UInt8} (h : 3 < l.length) : numB3 l = none := by unfold numB3; rw [if_neg (by omega)]
theorem numB3_bad {l : List UInt8} (h : Lib.atoi l = none) : numB3 l = none := by unfold numB3; rw [h]; split <;> rfl
theorem numB3_neg {l : List UInt8} {n : Int} (h : Lib.atoi l = some n) (h0 : n < 0) : numB3 l = none := by
  unfold numB3; rw [h]; split
  · simp only; rw [if_neg (by omega)]
  · rfl
theorem numB3_other {l : List UInt8} {n : Int} (h : Lib.atoi l = some n) (h0 : Lib.itoa n ≠ l) : numB3 l = none := by
  unfold numB3; rw [h]; split
  · simp only; rw [if_neg (fun hh => h0 hh.2)]
  · rfl
theorem numB3_yes {l : List UInt8} {n : Int} (hl : l.length ≤ 3) (h : Lib.atoi l = some n) (h0 : 0 ≤ n) (h1 : Lib.itoa n = l) : numB3 l = some n := by
  unfold numB3; rw [if_pos hl, h]; simp only; rw [if_pos ⟨h0, h1⟩]
theorem numB3_some {l : List UInt8} {n : Int} (h : numB3 l = some n) : l.length ≤ 3 ∧ 0 ≤ n ∧ Lib.itoa n = l := by
  by_cases h1 : l.length ≤ 3
  · cases h2 : Lib.atoi l with
    | none => rw [numB3_bad h2] at h; cases h
    | some m =>
      by_cases h3 : 0 ≤ m
      · by_cases h4 : Lib.itoa m = l
        · rw [numB3_yes h1 h2 h3 h4] at h
          obtain rfl := Option.some.inj h
          exact ⟨h1, h3, h4⟩
        · rw [numB3_other h2 h4] at h; cases h
      · rw [numB3_neg h2 (by omega)] at h; cases h
  · rw [numB3_long (by omega)] at h; cases h
theorem numB3_form {l : List UInt8} {n : Int} (h : numB3 l = some n) : l.length ≤ 3 ∧ l = Lib.decDigits n.toNat := by
  obtain ⟨h1, h2, h3⟩ := numB3_some h
  rw [itoa_pos h2] at h3
  exact ⟨h1, h3.symm⟩
theorem num3_good {l : List UInt8} (hd : ∀ d ∈ l, isD d) (hne : l ≠ []) (h4 : l.length ≤ 3) (hh : l.head? = some 48 → l.length = 1) : numB3 l = some (valD l) := by
  obtain ⟨h1, h2, _⟩ := val_good l.length l rfl hd hne hh
  have ha := atoi_dec (valD l).toNat
  rw [h2, show (((valD l).toNat : Nat) : Int) = valD l by omega] at ha
  exact numB3_yes h4 ha h1 (by rw [itoa_pos h1]; exact h2)
theorem valD_le3 (l : List UInt8) (hd : ∀ d ∈ l, isD d) (h : l.length ≤ 3) : 0 ≤ valD l ∧ valD l ≤ 999 := by
  obtain ⟨h1, h2⟩ := valD_pow l.length l rfl hd
  refine ⟨h1, ?_⟩
  have hc : l.length = 0 ∨ l.length = 1 ∨ l.length = 2 ∨ l.length = 3 ∨ l.length = 4 ∨ l.length = 5 ∨ l.length = 6 ∨ l.length = 7 := by omega
  rcases hc with e | e | e | e | e | e | e | e <;> (rw [e] at h2; simp at h2; omega)
theorem dig3 {u : Nat} (h : u ≤ 999) : Lib.nDigits u ≤ 3 := digK 2 u (Nat.lt_of_le_of_lt h (by decide))
/-- A number of at most three digits is read as it was. -/
theorem num3_itoa {z : Int} (h0 : 0 ≤ z) (h1 : z ≤ 999) : numB3 (Lib.itoa z) = some z := by
  obtain ⟨u, rfl⟩ : ∃ u : Nat, z = u := ⟨z.toNat, by omega⟩
  have hi : Lib.itoa (u : Int) = Lib.decDigits u := by rw [itoa_pos (by omega)]; simp
  rw [hi]
  refine numB3_yes ?_ (atoi_dec u) (by omega) hi
  have : u ≤ 999 := by omega
  rw [Lib.decDigits_length]
  exact dig3 this
end Go.Proofs.YtajfgmlockjmhaiGreatDoor
namespace Go.Proofs.YtajfgmlockjmhaiGreatDoor

/-- Numbers of at most three digits, all of them. -/
def nums3 : List (List UInt8) → Option (List Int)
  | [] => some []
  | u :: ps => match numB3 u, nums3 ps with
    | some n, some l => some (n :: l)
    | _, _ => none
theorem nums3_back : ∀ {ps : List (List UInt8)} {ns : List Int}, nums3 ps = some ns → ps.flatMap (32 :: ·) = tail ns ∧ ns.length = ps.length ∧ ∀ n ∈ ns, 0 ≤ n
  | [], ns, h => by
    obtain rfl := Option.some.inj h
    exact ⟨rfl, rfl, fun n hn => (by cases hn)⟩
  | u :: ps, ns, h => by
    unfold nums3 at h
    cases h1 : numB3 u with
    | none => rw [h1] at h; cases h
    | some n =>
      cases h2 : nums3 ps with
      | none => rw [h1, h2] at h; cases h
      | some l =>
        rw [h1, h2] at h
        obtain rfl := Option.some.inj h
        obtain ⟨a1, a2, a3⟩ := nums3_back h2
        obtain ⟨_, b1, b2⟩ := numB3_some h1
        refine ⟨?_, by simp [a2], fun m hm => ?_⟩
        · rw [List.flatMap_cons, a1]
          simp [tail, b2]
        · rcases List.mem_cons.1 hm with rfl | hm
          · exact b1
          · exact a3 m hm
theorem nums3_itoa : ∀ (zs : List Int), (∀ z ∈ zs, 0 ≤ z ∧ z ≤ 999) → nums3 (zs.map Lib.itoa) = some zs
  | [], _ => rfl
  | z :: zs, h => by
    have h0 := h z (List.mem_cons_self ..)
    rw [List.map_cons, nums3, num3_itoa h0.1 h0.2, nums3_itoa zs (fun y hy => h y (List.mem_cons_of_mem _ hy))]
/-- A line: its word, and its numbers. -/
def wnT (u : List UInt8) : Option (List UInt8 × List Int) := match cutB 32 u with
  | [] => none
  | w :: ps => (nums3 ps).map fun ns => (w, ns)
theorem wt_back {u w : List UInt8} {ns : List Int} (h : wnT u = some (w, ns)) : w ++ tail ns = u ∧ ∀ n ∈ ns, 0 ≤ n := by
  unfold wnT at h
  split at h
  · cases h
  · rename_i w' ps hc
    obtain ⟨ns', hn, e⟩ := Option.map_eq_some_iff.1 h
    injection e with e1 e2
    subst e1
    subst e2
    obtain ⟨a1, _, a3⟩ := nums3_back hn
    have hj := cut_join 32 u [] _ _ hc
    rw [List.nil_append, a1] at hj
    exact ⟨hj.symm, a3⟩
theorem wt_line {w : List UInt8} (hw : (32 : UInt8) ∉ w) (zs : List Int) (h : ∀ z ∈ zs, 0 ≤ z ∧ z ≤ 999) : wnT (w ++ tail zs) = some (w, zs) := by
  unfold wnT
  rw [cut_body hw zs (fun z hz => (h z hz).1)]
  simp only
  rw [nums3_itoa zs h]
  rfl
theorem numB3_le {l : List UInt8} {n : Int} (h : numB3 l = some n) : n ≤ 999 := by
  obtain ⟨h1, h2⟩ := numB3_form h
  have h0 := (numB3_some h).2.1
  have hd : ∀ d ∈ l, isD d := fun d hd => by
    rw [h2] at hd
    exact dec_mem _ d hd
  have hne : l ≠ [] := by rw [h2]; exact dec_ne _
  have hg := num3_good hd hne h1 (fun hh => by
    have hz := dec_head n.toNat (by rw [← h2]; exact hh)
    rw [h2, hz, Lib.decDigits_one (by omega)]
    rfl)
  rw [h] at hg
  obtain rfl := Option.some.inj hg
  exact (valD_le3 l hd h1).2
theorem nums3_le : ∀ {ps : List (List UInt8)} {ns : List Int}, nums3 ps = some ns → ∀ n ∈ ns, n ≤ 999
  | [], ns, h => by
    obtain rfl := Option.some.inj h
    exact fun n hn => (by cases hn)
  | u :: ps, ns, h => by
    unfold nums3 at h
    cases h1 : numB3 u with
    | none => rw [h1] at h; cases h
    | some n =>
      cases h2 : nums3 ps with
      | none => rw [h1, h2] at h; cases h
      | some l =>
        rw [h1, h2] at h
        obtain rfl := Option.some.inj h
        intro m hm
        rcases List.mem_cons.1 hm with rfl | hm
        · exact numB3_le h1
        · exact nums3_le h2 m hm
theorem wt_le {u w : List UInt8} {ns : List Int} (h : wnT u = some (w, ns)) : ∀ n ∈ ns, n ≤ 999 := by
  unfold wnT at h
  split at h
  · cases h
  · obtain ⟨ns', hn, e⟩ := Option.map_eq_some_iff.1 h
    injection e with e1 e2
    subst e2
    exact nums3_le hn
theorem n3_snoc (ps : List (List UInt8)) (ns : List Int) (p : List UInt8) (n : Int) (h : nums3 ps = some ns) (hn : numB3 p = some n) : nums3 (ps ++ [p]) = some (ns ++ [n]) := by
  induction ps generalizing ns with
  | nil => obtain rfl := Option.some.inj h; simp [nums3, hn]
  | cons q qs ih =>
    unfold nums3 at h
    cases hq : numB3 q with
    | none => rw [hq] at h; cases h
    | some m =>
      cases hqs : nums3 qs with
      | none => rw [hq, hqs] at h; cases h
      | some ms =>
        rw [hq, hqs] at h
        obtain rfl := Option.some.inj h
        rw [List.cons_append, nums3, hq, ih ms hqs]
        rfl
theorem n3_bad {ps qs : List (List UInt8)} {p : List UInt8} (hn : numB3 p = none) : nums3 (ps ++ p :: qs) = none := by
  induction ps with
  | nil => rw [List.nil_append, nums3, hn]
  | cons q rs ih =>
    rw [List.cons_append, nums3, ih]
    cases numB3 q <;> rfl
theorem n3_len {ps : List (List UInt8)} {ns : List Int} (h : nums3 ps = some ns) : ns.length = ps.length := (nums3_back h).2.1
theorem wnT_no {u : List UInt8} (h : (32 : UInt8) ∉ u) : wnT u = some (u, []) := by
  unfold wnT cutB
  rw [cutGo_none 32 u [] h]
  rfl
theorem wnT_at {a v : List UInt8} (h : (32 : UInt8) ∉ a) : wnT (a ++ 32 :: v) = (nums3 (cutB 32 v)).map fun ns => (a, ns) := by
  unfold wnT
  rw [show cutB 32 (a ++ 32 :: v) = a :: cutB 32 v from cutGo_at 32 a [] v h]
/-- A line, with its end, as a word, and numbers. -/
def read3B (l : List UInt8) : Option (List UInt8 × List Int) := if l.getLast? = some 10 then wnT l.dropLast else none
theorem read3B_snoc (u : List UInt8) : read3B (u ++ [10]) = wnT u := by simp [read3B]
theorem read3B_none {l : List UInt8} (h : ∀ u, l ≠ u ++ [10]) : read3B l = none := by
  unfold read3B
  rw [if_neg]
  intro e
  obtain ⟨u, hu⟩ := List.getLast?_eq_some_iff.1 e
  exact h u hu
end Go.Proofs.YtajfgmlockjmhaiGreatDoor
namespace Go.Proofs.YtajfgmlockjmhaiGreatDoor

def goW : List UInt8 := [103, 111]
def pokeW : List UInt8 := [112, 111, 107, 101]
def lsW : LStp → List UInt8
  | .go _ => goW
  | .poke _ _ _ => pokeW
def lsN : LStp → List Int
  | .go n => [(n : Int)]
  | .poke r c n => [r, c, n]
/-- A record. -/
def recB (s : LStp) : List UInt8 := lineB (lsW s) (lsN s)
/-- A step that a log lets in. -/
def LsOk (s : LStp) : Prop := ∀ z ∈ lsN s, 0 ≤ z ∧ z ≤ 999
theorem lsW_no (s : LStp) : (10 : UInt8) ∉ lsW s ∧ (32 : UInt8) ∉ lsW s := by
  cases s with
  | go n => exact ⟨by show (10 : UInt8) ∉ goW; decide, by show (32 : UInt8) ∉ goW; decide⟩
  | poke r c n => exact ⟨by show (10 : UInt8) ∉ pokeW; decide, by show (32 : UInt8) ∉ pokeW; decide⟩
theorem recB_form {s : LStp} (h : LsOk s) : recB s = (lsW s ++ tail (lsN s)) ++ [10] ∧ (10 : UInt8) ∉ lsW s ++ tail (lsN s) := ⟨rfl, not_word (lsW_no s).1 (fun z hz => (h z hz).1)⟩
theorem recB_len {s : LStp} (h : LsOk s) : 2 ≤ (recB s).length ∧ (recB s).length ≤ 71 := by
  have h1 : (tail (lsN s)).length ≤ 22 * (lsN s).length := tail_le (lsN s) (fun z hz => by have := h z hz; omega)
  rw [(recB_form h).1, List.length_append, List.length_append, List.length_singleton]
  cases s with
  | go n => simp only [lsW, goW, lsN, List.length_cons, List.length_nil] at *; omega
  | poke r c n => simp only [lsW, pokeW, lsN, List.length_cons, List.length_nil] at *; omega
theorem recB_read {s : LStp} (h : LsOk s) : read3B (recB s) = some (lsW s, lsN s) := by
  rw [(recB_form h).1, read3B_snoc]
  exact wt_line (lsW_no s).2 (lsN s) h
/-- All records. -/
def flatB (l : List (LStp × Nat)) : List UInt8 := l.flatMap fun r => recB r.1
/-- Records are right: each is let in, and its size is its text's. -/
def RcOk (l : List (LStp × Nat)) : Prop := ∀ r ∈ l, LsOk r.1 ∧ r.2 = (recB r.1).length
theorem flat_len : ∀ {l : List (LStp × Nat)}, RcOk l → (flatB l).length = sizeR l
  | [], _ => rfl
  | r :: l, h => by
    have h1 := flat_len (l := l) (fun x hx => h x (List.mem_cons_of_mem _ hx))
    have h2 := (h r (List.mem_cons_self ..)).2
    show (recB r.1 ++ flatB l).length = r.2 + sizeR l
    rw [List.length_append, h1, h2]
theorem flat_append (l m : List (LStp × Nat)) : flatB (l ++ m) = flatB l ++ flatB m := by simp [flatB]
theorem size_small {l : List (LStp × Nat)} (h : RcOk l) : sizeR l ≤ 71 * l.length := by
  induction l with
  | nil => exact Nat.zero_le _
  | cons r l ih =>
    have h1 := ih (fun x hx => h x (List.mem_cons_of_mem _ hx))
    obtain ⟨h2, h3⟩ := h r (List.mem_cons_self ..)
    have h4 := (recB_len h2).2
    simp only [sizeR, List.length_cons]
    omega
/-- A text and what stands behind its last byte 10. -/
def LastNl (l : List UInt8) (n : Nat) : Prop := (n = 0 ∨ (1 ≤ n ∧ l[n - 1]? = some 10)) ∧ ∀ j, n ≤ j → l[j]? ≠ some 10
theorem last_none {l : List UInt8} (h : (10 : UInt8) ∉ l) : LastNl l 0 := ⟨Or.inl rfl, fun _ _ e => h (List.mem_of_getElem? e)⟩
theorem last_more {u l : List UInt8} {n : Nat} (h : LastNl l n) : LastNl ((u ++ [10]) ++ l) (u.length + 1 + n) := by
  obtain ⟨h1, h2⟩ := h
  have hl : (u ++ [10]).length = u.length + 1 := by simp
  refine ⟨Or.inr ⟨by omega, ?_⟩, fun j hj => ?_⟩
  · rcases h1 with rfl | ⟨h1, h3⟩
    · rw [List.getElem?_append_left (by omega), List.getElem?_append_right (by omega)]
      simp
    · rw [List.getElem?_append_right (by omega), hl, show u.length + 1 + n - 1 - (u.length + 1) = n - 1 by omega]
      exact h3
  · rw [List.getElem?_append_right (by omega), hl]
    exact h2 _ (by omega)
theorem whole_last : ∀ (l : List (LStp × Nat)) (m : Nat) (pt : List UInt8), RcOk l → (10 : UInt8) ∉ pt → LastNl ((flatB l ++ pt).take m) (sizeR (wholeR m l))
  | [], m, pt, _, hp => by
    show LastNl (([] ++ pt).take m) 0
    refine last_none fun hm => hp ?_
    rw [List.nil_append] at hm
    exact List.mem_of_mem_take hm
  | r :: l, m, pt, h, hp => by
    obtain ⟨h1, h2⟩ := h r (List.mem_cons_self ..)
    obtain ⟨h3, h4⟩ := recB_form h1
    have hs : (recB r.1).length = (lsW r.1 ++ tail (lsN r.1)).length + 1 := by rw [h3, List.length_append, List.length_singleton]
    have hf : flatB (r :: l) ++ pt = recB r.1 ++ (flatB l ++ pt) := by
      show (recB r.1 ++ flatB l) ++ pt = _
      rw [List.append_assoc]
    rw [hf]
    unfold wholeR
    by_cases hm : r.2 ≤ m
    · rw [if_pos hm]
      show LastNl _ (r.2 + sizeR (wholeR (m - r.2) l))
      have ht : (recB r.1 ++ (flatB l ++ pt)).take m = recB r.1 ++ (flatB l ++ pt).take (m - r.2) := by
        rw [List.take_append, h2, List.take_of_length_le (by omega)]
      rw [ht, h2, hs, h3]
      have := last_more (u := lsW r.1 ++ tail (lsN r.1)) (whole_last l (m - r.2) pt (fun x hx => h x (List.mem_cons_of_mem _ hx)) hp)
      rw [h2, hs] at this
      exact this
    · rw [if_neg hm]
      refine last_none fun hx => h4 ?_
      rw [List.take_append_of_le_length (by omega), h3, List.take_append_of_le_length (by omega)] at hx
      exact List.mem_of_mem_take hx
theorem flat_whole {l : List (LStp × Nat)} (h : RcOk l) (m : Nat) (pt : List UInt8) : (flatB l ++ pt).take (sizeR (wholeR m l)) = flatB (wholeR m l) ∧ RcOk (wholeR m l) := by
  obtain ⟨n, hn⟩ := wholeR_pre m l
  rw [hn]
  have h1 : RcOk (l.take n) := fun r hr => h r (List.mem_of_mem_take hr)
  refine ⟨?_, h1⟩
  have h2 : flatB l = flatB (l.take n) ++ flatB (l.drop n) := by rw [← flat_append, List.take_append_drop]
  rw [h2, List.append_assoc, ← flat_len h1, List.take_left]
theorem flat_lines : ∀ {l : List (LStp × Nat)}, RcOk l → linesB (flatB l) = l.map fun r => recB r.1
  | [], _ => rfl
  | r :: l, h => by
    obtain ⟨h1, _⟩ := h r (List.mem_cons_self ..)
    obtain ⟨h3, h4⟩ := recB_form h1
    show linesB (recB r.1 ++ flatB l) = recB r.1 :: l.map fun r => recB r.1
    rw [h3, List.append_assoc, List.singleton_append, lines_at _ h4, flat_lines (fun x hx => h x (List.mem_cons_of_mem _ hx))]
/-- What the text is that a log has. -/
structure LTx (d : LgD) (bs : List UInt8) : Prop where
  ok : RcOk d.recs
  tx : ∃ pt, bs = flatB d.recs ++ pt ∧ pt.length = d.part ∧ (10 : UInt8) ∉ pt
theorem LTx.len {d : LgD} {bs : List UInt8} (h : LTx d bs) : bs.length = d.bytes := by
  obtain ⟨pt, h1, h2, _⟩ := h.tx
  rw [h1, List.length_append, flat_len h.ok, h2]
  rfl
theorem LTx.small {p : PD} {d : LgD} {bs : List UInt8} (h : LTx d bs) (hk : LOk p d) : bs.length ≤ 100000 := by
  have h1 := size_small h.ok
  have h2 := hk.len
  have h3 := hk.few
  rw [h.len]
  unfold LgD.bytes
  omega
theorem LTx.same {d d' : LgD} {bs : List UInt8} (h : LTx d bs) (h1 : d'.recs = d.recs) (h2 : d'.part = d.part) : LTx d' bs := ⟨by rw [h1]; exact h.ok, by rw [h1, h2]; exact h.tx⟩
theorem LTx.new : LTx newL [] := ⟨fun r hr => (by cases hr), [], rfl, rfl, by simp⟩
/-- A record more, or half of it. -/
theorem LTx.put {d : LgD} {bs : List UInt8} {s : LStp} (h : LTx d bs) (hp : d.part = 0) (hs : LsOk s) : LTx (putR d s (recB s).length) (if d.last = true then bs ++ (recB s).take ((recB s).length / 2) else bs ++ recB s) := by
  obtain ⟨pt, h1, h2, h3⟩ := h.tx
  rw [hp] at h2
  obtain rfl := List.eq_nil_of_length_eq_zero h2
  rw [List.append_nil] at h1
  obtain ⟨f1, f2⟩ := recB_form hs
  have hl := recB_len hs
  unfold putR
  split
  · refine ⟨h.ok, _, by rw [h1], ?_, fun hm => f2 ?_⟩
    · show _ = d.part + (recB s).length / 2
      rw [List.length_take, hp]
      omega
    · have hle : (lsW s ++ tail (lsN s)).length + 1 = (recB s).length := by rw [f1]; simp only [List.length_append, List.length_singleton]
      rw [f1, List.take_append_of_le_length (by rw [← f1]; omega)] at hm
      exact List.mem_of_mem_take hm
  · refine ⟨fun r hr => ?_, [], ?_, by show (0 : Nat) = d.part; omega, by simp⟩
    · rcases List.mem_append.1 hr with hr | hr
      · exact h.ok r hr
      · rw [List.mem_singleton] at hr
        subst hr
        exact ⟨hs, rfl⟩
    · show _ = flatB (d.recs ++ [(s, (recB s).length)]) ++ []
      rw [flat_append, h1, List.append_nil]
      simp [flatB]
/-- Behind a crash. -/
theorem LTx.crash {d : LgD} {bs : List UInt8} (h : LTx d bs) (keep : Int) : LastNl (bs.take (d.high keep)) (crashL d keep).safe ∧ LTx (crashL d keep) (bs.take (crashL d keep).safe) ∧ (crashL d keep).safe ≤ d.high keep ∧ bs.take (crashL d keep).safe = flatB (crashL d keep).recs := by
  obtain ⟨pt, h1, _, h3⟩ := h.tx
  obtain ⟨q1, q2⟩ := flat_whole h.ok (d.high keep) pt
  have e : bs.take (crashL d keep).safe = flatB (crashL d keep).recs := by
    rw [h1]
    exact q1
  refine ⟨by rw [h1]; exact whole_last _ _ _ h.ok h3, ⟨q2, [], by rw [e, List.append_nil], rfl, by simp⟩, wholeR_le _ _, e⟩
/-- What a line does to a kernel. -/
def doW (p : PD) (k : KD) (w : List UInt8) (ns : List Int) : KD := if w = goW ∧ ns.length = 1 then ticksK p (ns.getD 0 0).toNat k else if w = pokeW ∧ ns.length = 3 then pokeK k (ns.getD 0 0) (ns.getD 1 0) (ns.getD 2 0) else k
def doLn (p : PD) (k : KD) (l : List UInt8) : KD := match read3B l with
  | some (w, ns) => doW p k w ns
  | none => k
theorem doW_step (p : PD) (k : KD) (s : LStp) : doW p k (lsW s) (lsN s) = doK p k s := by
  cases s with
  | go n =>
    unfold doW
    rw [if_pos ⟨rfl, rfl⟩]
    show ticksK p (Int.toNat (n : Int)) k = ticksK p n k
    rw [Int.toNat_natCast]
  | poke r c n =>
    unfold doW
    rw [if_neg (fun h => absurd h.1 (by show ¬ pokeW = goW; decide)), if_pos ⟨rfl, rfl⟩]
    rfl
theorem doLn_rec (p : PD) (k : KD) {s : LStp} (h : LsOk s) : doLn p k (recB s) = doK p k s := by
  unfold doLn
  rw [recB_read h]
  exact doW_step p k s
theorem doW_ok {p : PD} (hp : plchk p = 0) {k : KD} (h : KOk p k) (w : List UInt8) (ns : List Int) : KOk p (doW p k w ns) := by
  unfold doW
  split
  · exact ticksK_ok hp _ h
  · split
    · exact poke_ok h _ _ _
    · exact h
theorem doW_time (p : PD) (k : KD) (w : List UInt8) {ns : List Int} (h : ∀ n ∈ ns, 0 ≤ n ∧ n ≤ 999) : (doW p k w ns).time ≤ k.time + 999 := by
  unfold doW
  split
  · rename_i h1
    rw [ticksK_time]
    match ns, h1.2 with
    | [n], _ =>
      have := h n (by simp)
      show k.time + ((n.toNat : Nat) : Int) ≤ _
      omega
  · split
    · rw [pokeK_tm]
      omega
    · omega
theorem doLn_ok {p : PD} (hp : plchk p = 0) {k : KD} (h : KOk p k) (l : List UInt8) : KOk p (doLn p k l) := by
  unfold doLn
  split
  · exact doW_ok hp h _ _
  · exact h
theorem read3_in {l w : List UInt8} {ns : List Int} (h : read3B l = some (w, ns)) : ∀ n ∈ ns, 0 ≤ n ∧ n ≤ 999 := by
  unfold read3B at h
  split at h
  · exact fun n hn => ⟨(wt_back h).2 n hn, wt_le h n hn⟩
  · cases h
theorem doLn_time (p : PD) (k : KD) (l : List UInt8) : (doLn p k l).time ≤ k.time + 999 := by
  unfold doLn
  split
  · rename_i w ns h
    exact doW_time p k w (read3_in h)
  · omega
theorem fold_lines {p : PD} : ∀ {l : List (LStp × Nat)} {k : KD}, RcOk l → (l.map fun r => recB r.1).foldl (doLn p) k = (l.map (·.1)).foldl (doK p) k
  | [], _, _ => rfl
  | r :: l, k, h => by
    show (l.map fun r => recB r.1).foldl (doLn p) (doLn p k (recB r.1)) = (l.map (·.1)).foldl (doK p) (doK p k r.1)
    rw [doLn_rec p k (h r (List.mem_cons_self ..)).1, fold_lines (fun x hx => h x (List.mem_cons_of_mem _ hx))]
end Go.Proofs.YtajfgmlockjmhaiGreatDoor
namespace Go.Proofs.YtajfgmlockjmhaiGreatDoor
open Go.RowKit

/-- Its block. -/
def LBk (W : World) (b : Nat) (cv : Value) (t : Int) (sv wv kv rv : Value) (sf fl : Int) (st : Bool) : Prop := W.heap[b]? = some (.cells #[cv, .int .i64 t, sv, wv, kv, rv, .int .i64 sf, .int .i64 fl, .bool st] 113 (0, 0))
section
variable {W W' : World} {b : Nat} {cv sv wv kv rv : Value} {t sf fl : Int} {st : Bool}
theorem LBk.cs (h : LBk W b cv t sv wv kv rv sf fl st) : W.cell? ⟨b, 0, none⟩ = some cv ∧ W.cell? ⟨b, 1, none⟩ = some (.int .i64 t) ∧ W.cell? ⟨b, 2, none⟩ = some sv ∧ W.cell? ⟨b, 3, none⟩ = some wv ∧ W.cell? ⟨b, 4, none⟩ = some kv ∧ W.cell? ⟨b, 5, none⟩ = some rv ∧ W.cell? ⟨b, 6, none⟩ = some (.int .i64 sf) ∧ W.cell? ⟨b, 7, none⟩ = some (.int .i64 fl) ∧ W.cell? ⟨b, 8, none⟩ = some (.bool st) := by
  have e : W.heap[b]? = _ := h
  simp [World.cell?, e]
theorem LBk.free (h : LBk W b cv t sv wv kv rv sf fl st) (o : Nat) : W.frozen? ⟨b, o, none⟩ = false := by
  have e : W.heap[b]? = _ := h
  simp [World.frozen?, e]
theorem LBk.lt (h : LBk W b cv t sv wv kv rv sf fl st) : b < W.heap.size := by
  have e : W.heap[b]? = _ := h
  exact (Array.getElem?_eq_some_iff.1 e).1
theorem LBk.kern (h : LBk W b cv t sv wv kv rv sf fl st) (v : Value) : LBk (W.setCell ⟨b, 4, none⟩ v) b cv t sv wv v rv sf fl st := by
  have e : W.heap[b]? = _ := h
  unfold LBk
  simp [World.setCell, Array.getElem?_modify, e]
theorem LBk.recs (h : LBk W b cv t sv wv kv rv sf fl st) (v : Value) : LBk (W.setCell ⟨b, 5, none⟩ v) b cv t sv wv kv v sf fl st := by
  have e : W.heap[b]? = _ := h
  unfold LBk
  simp [World.setCell, Array.getElem?_modify, e]
theorem LBk.safe (h : LBk W b cv t sv wv kv rv sf fl st) (v : Int) : LBk (W.setCell ⟨b, 6, none⟩ (.int .i64 v)) b cv t sv wv kv rv v fl st := by
  have e : W.heap[b]? = _ := h
  unfold LBk
  simp [World.setCell, Array.getElem?_modify, e]
theorem LBk.fail (h : LBk W b cv t sv wv kv rv sf fl st) (v : Int) : LBk (W.setCell ⟨b, 7, none⟩ (.int .i64 v)) b cv t sv wv kv rv sf v st := by
  have e : W.heap[b]? = _ := h
  unfold LBk
  simp [World.setCell, Array.getElem?_modify, e]
theorem LBk.stop (h : LBk W b cv t sv wv kv rv sf fl st) (v : Bool) : LBk (W.setCell ⟨b, 8, none⟩ (.bool v)) b cv t sv wv kv rv sf fl v := by
  have e : W.heap[b]? = _ := h
  unfold LBk
  simp [World.setCell, Array.getElem?_modify, e]
theorem LBk.to (h : LBk W b cv t sv wv kv rv sf fl st) (e : W'.heap[b]? = W.heap[b]?) : LBk W' b cv t sv wv kv rv sf fl st := e.trans h
end
/-- Where it lies: the kernel, the plan of its own, the bytes. -/
structure LW where
  kb : Nat
  FK : List Nat
  vc : Value
  vs : Value
  vw : Value
  cv : Value
  sv : Value
  wv : Value
  us : List Value
  rv : Value
  bs : List UInt8
def LW.F1 (x : LW) : List Nat := plF x.cv x.sv x.wv x.us
/-- All its blocks. -/
def LW.F (x : LW) (lb : Nat) : List Nat := lb :: (x.F1 ++ (x.rv.ownBlock.toList ++ x.FK))
structure GL {G : World → Prop} (D : KerC G) (w0 w : World) (p : PD) (d : LgD) (k : KD) (lb : Nat) (x : LW) : Prop where
  since : Below w0.heap.size w0 w
  blk : LBk w lb x.cv p.ticks x.sv x.wv (.pointer (some ⟨x.kb, 0, none⟩)) x.rv (d.safe : Nat) d.fail d.stop
  k : D.K w0 w p x.vc x.vs x.vw k x.kb x.FK
  pl : PlO w w0.heap.size x.cv x.sv x.wv p x.us
  row : w.ownsRow w0.heap.size 5 1 x.rv x.bs.length (Lib.byteCells x.bs)
  tx : LTx d x.bs
  ge : w0.heap.size ≤ lb
  a1 : lb ∉ x.F1
  a2 : lb ∉ x.FK
  a3 : ∀ g, x.rv.ownBlock = some g → g ≠ lb ∧ g ∉ x.F1 ∧ g ∉ x.FK
  a4 : ∀ g ∈ x.F1, g ∉ x.FK
section
variable {G : World → Prop} {D : KerC G} {w0 w w' : World} {p : PD} {d d' : LgD} {k k' : KD} {lb : Nat} {x : LW}
theorem LW.mem0 (x : LW) (lb : Nat) : lb ∈ x.F lb := by simp [LW.F]
theorem LW.mem1 {g : Nat} (h : g ∈ x.F1) : g ∈ x.F lb := by simp [LW.F, h]
theorem LW.mem2 {g : Nat} (h : g ∈ x.FK) : g ∈ x.F lb := by simp [LW.F, h]
theorem LW.mem3 {g : Nat} (h : x.rv.ownBlock = some g) : g ∈ x.F lb := by simp [LW.F, h]
theorem LW.memD {g : Nat} (h : g ∈ x.F lb) : g = lb ∨ g ∈ x.F1 ∨ x.rv.ownBlock = some g ∨ g ∈ x.FK := by
  simp only [LW.F, List.mem_cons, List.mem_append, Option.mem_toList] at h
  rcases h with h | h | h | h
  · exact Or.inl h
  · exact Or.inr (Or.inl h)
  · exact Or.inr (Or.inr (Or.inl h))
  · exact Or.inr (Or.inr (Or.inr h))
theorem GL.flt (h : GL D w0 w p d k lb x) : ∀ g ∈ x.F lb, w0.heap.size ≤ g ∧ g < w.heap.size := fun g hg => by
  rcases LW.memD hg with e | e | e | e
  · rw [e]; exact ⟨h.ge, h.blk.lt⟩
  · exact h.pl.flt g e
  · exact h.row.lt g e
  · exact D.ge h.k g e
/-- What is written elsewhere leaves it as it is. -/
theorem GL.frame (h : GL D w0 w p d k lb x) {M : List Nat} (ht : KTouch M w w') (hM : ∀ m ∈ M, m ∉ x.F lb ∧ w0.heap.size ≤ m) : GL D w0 w' p d k lb x := by
  have hs := ht.size
  exact ⟨h.since.trans (ht.below (fun m hm => (hM m hm).2) h.since.size), h.blk.to (ht.block lb h.blk.lt (fun hm => (hM _ hm).1 (x.mem0 lb))), D.frame h.k ht (fun m hm => ⟨fun hf => (hM m hm).1 (LW.mem2 hf), (hM m hm).2⟩), h.pl.kept hs (fun g hg => ht.block g (h.pl.flt g hg).2 (fun hm => (hM _ hm).1 (LW.mem1 hg))), own_block h.row (fun g hg => ht.block g (h.row.lt g hg).2 (fun hm => (hM _ hm).1 (LW.mem3 hg))), h.tx, h.ge, h.a1, h.a2, h.a3, h.a4⟩
theorem GL.all (h : GL D w0 w p d k lb x) (hb : Below w.heap.size w w') : GL D w0 w' p d k lb x := h.frame (M := []) (KTouch.of hb) (by simp)
theorem GL.lower {w1 : World} (h : GL D w0 w p d k lb x) (hb : Below w1.heap.size w1 w0) : GL D w1 w p d k lb x :=
  ⟨hb.trans (h.since.mono hb.size), h.blk, D.lower hb h.k, h.pl.lower hb.size, own_base h.row hb.size, h.tx, Nat.le_trans hb.size h.ge, h.a1, h.a2, h.a3, h.a4⟩
/-- Cells of its own block are others. -/
theorem GL.cells (h : GL D w0 w p d k lb x) (ht : KTouch [lb] w w') (hb : LBk w' lb x.cv p.ticks x.sv x.wv (.pointer (some ⟨x.kb, 0, none⟩)) x.rv (d'.safe : Nat) d'.fail d'.stop) (htx : LTx d' x.bs) : GL D w0 w' p d' k lb x := by
  have hs := ht.size
  have hge := h.ge
  exact ⟨h.since.trans (ht.below (fun m hm => by rw [List.mem_singleton] at hm; omega) h.since.size), hb, D.frame h.k ht (fun m hm => by rw [List.mem_singleton] at hm; subst hm; exact ⟨h.a2, hge⟩), h.pl.kept hs (fun g hg => ht.block g (h.pl.flt g hg).2 (fun hm => by rw [List.mem_singleton] at hm; subst hm; exact h.a1 hg)), own_block h.row (fun g hg => ht.block g (h.row.lt g hg).2 (fun hm => by rw [List.mem_singleton] at hm; exact (h.a3 g hg).1 hm)), htx, h.ge, h.a1, h.a2, h.a3, h.a4⟩
/-- Its kernel is another one. -/
theorem GL.ker (h : GL D w0 w p d k lb x) {F' : List Nat} (ht : KTouch x.FK w w') (hk : D.K w0 w' p x.vc x.vs x.vw k' x.kb F') (hn : ∀ g ∈ F', g ∈ x.FK ∨ w.heap.size ≤ g) : GL D w0 w' p d k' lb { x with FK := F' } := by
  have hs := ht.size
  have hge := h.ge
  have hlt := h.blk.lt
  refine ⟨h.since.trans (ht.below (fun m hm => (D.ge h.k m hm).1) h.since.size), h.blk.to (ht.block lb hlt h.a2), hk, h.pl.kept hs (fun g hg => ht.block g (h.pl.flt g hg).2 (h.a4 g hg)), own_block h.row (fun g hg => ht.block g (h.row.lt g hg).2 (h.a3 g hg).2.2), h.tx, h.ge, h.a1, fun hm => ?_, fun g hg => ⟨(h.a3 g hg).1, (h.a3 g hg).2.1, fun hm => ?_⟩, fun g hg hm => ?_⟩
  · rcases hn lb hm with e | e
    · exact h.a2 e
    · omega
  · rcases hn g hm with e | e
    · exact (h.a3 g hg).2.2 e
    · have := (h.row.lt g hg).2
      omega
  · rcases hn g hm with e | e
    · exact h.a4 g hg e
    · have := (h.pl.flt g hg).2
      omega
theorem LW.ker_new {F' : List Nat} {m : Nat} (hn : ∀ g ∈ F', g ∈ x.FK ∨ m ≤ g) : ∀ g ∈ LW.F { x with FK := F' } lb, g ∈ x.F lb ∨ m ≤ g := fun g hg => by
  rcases LW.memD hg with e | e | e | e
  · exact Or.inl (by rw [e]; exact x.mem0 lb)
  · exact Or.inl (LW.mem1 e)
  · exact Or.inl (LW.mem3 e)
  · exact (hn g e).imp LW.mem2 id
/-- Its bytes are others. -/
theorem GL.text (h : GL D w0 w p d k lb x) {wa : World} {rv' : Value} {bs' : List UInt8} (hg : w.grownBy wa x.rv.ownBlock) (hown : wa.ownsRow w0.heap.size 5 1 rv' bs'.length (Lib.byteCells bs')) (hnew : ∀ g, rv'.ownBlock = some g → x.rv.ownBlock = some g ∨ w.heap.size ≤ g) (h1 : d'.safe = d.safe) (h2 : d'.fail = d.fail) (h3 : d'.stop = d.stop) (htx : LTx d' bs') :
    GL D w0 (wa.setCell ⟨lb, 5, none⟩ rv') p d' k lb { x with rv := rv', bs := bs' } ∧ KTouch (x.F lb) w (wa.setCell ⟨lb, 5, none⟩ rv') ∧ ∀ g ∈ LW.F { x with rv := rv', bs := bs' } lb, g ∈ x.F lb ∨ w.heap.size ≤ g := by
  have hset : ∀ g, g ≠ lb → (wa.setCell ⟨lb, 5, none⟩ rv').heap[g]? = wa.heap[g]? := fun g hg' => Below.heap_setCell _ _ _ _ hg'
  have hsz : (wa.setCell ⟨lb, 5, none⟩ rv').heap.size = wa.heap.size := by simp
  have hgs := hg.size
  have hlt := h.blk.lt
  have hge := h.ge
  have hlbo : x.rv.ownBlock ≠ some lb := fun e => (h.a3 lb e).1 rfl
  have hwl : wa.heap[lb]? = w.heap[lb]? := hg.block lb hlt (fun e => hlbo e.symm)
  have ht : KTouch (lb :: x.rv.ownBlock.toList) w (wa.setCell ⟨lb, 5, none⟩ rv') := ⟨hg.os, hg.tape, hg.output, by omega, fun g hgl hm => (hset g (fun e => hm (by simp [e]))).trans (hg.block g hgl (fun e => hm (by simp [← e])))⟩
  have hin : ∀ m ∈ lb :: x.rv.ownBlock.toList, m = lb ∨ x.rv.ownBlock = some m := fun m hm => by
    simpa only [List.mem_cons, Option.mem_toList] using hm
  have hb' : LBk (wa.setCell ⟨lb, 5, none⟩ rv') lb x.cv p.ticks x.sv x.wv (.pointer (some ⟨x.kb, 0, none⟩)) rv' (d.safe : Nat) d.fail d.stop := (h.blk.to hwl).recs rv'
  have hrl : ∀ g, rv'.ownBlock = some g → g ≠ lb := fun g hg' e => by
    rcases hnew g hg' with e1 | e1
    · exact (h.a3 g e1).1 e
    · omega
  refine ⟨⟨h.since.trans (ht.below (fun m hm => ?_) h.since.size), by rw [h1, h2, h3]; exact hb', D.frame h.k ht (fun m hm => ?_), h.pl.kept (by omega) (fun g hg' => ht.block g (h.pl.flt g hg').2 (fun hm => ?_)), own_block hown (fun g hg' => hset g (hrl g hg')), htx, h.ge, h.a1, h.a2, fun g hg' => ⟨hrl g hg', ?_, ?_⟩, h.a4⟩, ht.mono (fun m hm => ?_), fun g hg' => ?_⟩
  · rcases hin m hm with e | e
    · omega
    · exact (h.row.lt m e).1
  · rcases hin m hm with e | e
    · rw [e]; exact ⟨h.a2, h.ge⟩
    · exact ⟨(h.a3 m e).2.2, (h.row.lt m e).1⟩
  · rcases hin g hm with e | e
    · exact h.a1 (by rw [← e]; exact hg')
    · exact (h.a3 g e).2.1 hg'
  · intro hm
    rcases hnew g hg' with e | e
    · exact (h.a3 g e).2.1 hm
    · have := (h.pl.flt g hm).2
      omega
  · intro hm
    rcases hnew g hg' with e | e
    · exact (h.a3 g e).2.2 hm
    · have := (D.ge h.k g hm).2
      omega
  · rcases hin m hm with e | e
    · rw [e]; exact x.mem0 lb
    · exact LW.mem3 e
  · rcases LW.memD hg' with e | e | e | e
    · exact Or.inl (by rw [e]; exact x.mem0 lb)
    · exact Or.inl (LW.mem1 e)
    · exact (hnew g e).imp LW.mem3 id
    · exact Or.inl (LW.mem2 e)
end
end Go.Proofs.YtajfgmlockjmhaiGreatDoor
namespace Go.Proofs.YtajfgmlockjmhaiGreatDoor
open Go.RowKit
section
variable {G : World → Prop} {D : KerC G} {w0 : World} {p : PD} {d : LgD} {k : KD} {lb : Nat} {x : LW}

end
end Go.Proofs.YtajfgmlockjmhaiGreatDoor
namespace Go.Proofs.YtajfgmlockjmhaiGreatDoor
open Go.RowKit

set_option maxRecDepth 100000 in
set_option maxHeartbeats 4000000 in
theorem lastib_any (s : ByteArray) (n : Nat) (w : World) (hn : LastNl s.data.toList n) (hl : n ≤ s.size) (hs : s.size ≤ 1000000) :
    Calls Tryz.prog 88 #[.string s, .int .u8 10] w fun e w' => e = .returned (.int .i64 ((n : Int) - 1)) ∧ Below w.heap.size w w' := by
  have hsl : s.data.toList.length = s.size := by simp
  have HN : Hid (LastNl s.data.toList n) := hn
  clear hn
  go_enter Tryz.func88, Tryz.ntmps88
  go_upto_region 2 with fail
  go_loopw [5] (fun i wr => ∃ k : Nat, n ≤ k ∧ k ≤ s.size ∧ i = .int .i64 ((k : Int) - 1) ∧ Below w.heap.size w wr) (fun i _ => (intOf i + 1).toNat)
  case atStart => exact ⟨s.size, hl, Nat.le_refl _, by go_num, Below.refl _ _⟩
  case round =>
    obtain ⟨k, hnk, hks, rfl, hb⟩ := hrel
    rcases Nat.eq_zero_or_pos k with rfl | hk
    · obtain rfl : n = 0 := by omega
      have h0 : decide ((0 : Int) ≤ ((0 : Nat) : Int) - 1) = false := by decide
      go_wp2
      go_ret
      exact ⟨rfl, hb⟩
    · obtain ⟨j, rfl⟩ : ∃ j, k = j + 1 := ⟨k - 1, by omega⟩
      rw [show (((j + 1 : Nat) : Int) - 1) = (j : Int) by omega]
      have hj : j < s.size := by omega
      have hjl : j < s.data.toList.length := by omega
      have hgd : s[j] = s.data.toList[j] := rfl
      by_cases hx : s.data.toList[j] = 10
      · have hnj : n = j + 1 := by
          refine Classical.byContradiction fun hne => HN.out.2 j (by omega) ?_
          rw [List.getElem?_eq_getElem hjl, hx]
        have ht : ((s[j].toNat : Int) == 10) = true := by rw [hgd, hx]; decide
        clear hx hgd
        go_wp2
        go_ret
        exact ⟨by rw [hnj]; simp, hb⟩
      · have hnj : n ≤ j := by
          refine Classical.byContradiction fun hgt => hx ?_
          obtain rfl : n = j + 1 := by omega
          rcases HN.out.1 with h | ⟨_, h⟩
          · omega
          · rw [Nat.add_sub_cancel, List.getElem?_eq_getElem hjl] at h
            exact Option.some.inj h
        have ht : ((s[j].toNat : Int) == 10) = false := by
          rw [hgd]
          simp only [beq_eq_false_iff_ne, ne_eq]
          intro e
          exact hx (UInt8.toNat_inj.1 (by have : (10 : UInt8).toNat = 10 := rfl; omega))
        clear hx hgd
        go_wp2
        go_roundw
        case rel => exact ⟨j, hnj, by omega, by go_num, hb⟩
        case measure => simp [intOf]
set_option maxRecDepth 100000 in
set_option maxHeartbeats 1000000 in
theorem lastix_any (s : ByteArray) (n : Nat) (w : World) (hn : LastNl s.data.toList n) (hl : n ≤ s.size) (hs : s.size ≤ 1000000) :
    Calls Tryz.prog 52 #[.string s, .int .u8 10] w fun e w' => e = .returned (.int .i64 ((n : Int) - 1)) ∧ Below w.heap.size w w' := by
  have hq := lastib_any s n w hn hl hs
  clear hn
  generalize ((n : Int) - 1) = m at *
  go_enter Tryz.func52, Tryz.ntmps52
  go_wp2_with (go_at_call 88; refine hq.mono ?_; rintro e w1 ⟨rfl, b1⟩; clear hq)
  go_ret
  exact ⟨rfl, b1⟩
end Go.Proofs.YtajfgmlockjmhaiGreatDoor
namespace Go.Proofs.YtajfgmlockjmhaiGreatDoor
open Go.RowKit
section
variable {G : World → Prop} {D : KerC G} {w0 : World} {p : PD} {d : LgD} {lb : Nat} {x : LW}

set_option maxRecDepth 100000 in
set_option maxHeartbeats 4000000 in
theorem lgstate_any (r : Int) (w : World) (h : GL D w0 w p d (d.k p) lb x) (hp : plchk p = 0) :
    Calls Tryz.prog 31 #[.pointer (some ⟨lb, 0, none⟩), .int .i64 r] w fun e w' => e = .returned (.tuple #[stA (roomK (d.k p) r), wErr (errB (noRoom (d.k p) r))]) ∧ Below w.heap.size w w' := by
  have hB1 : Below w.heap.size w (w.alloc (.cells #[.int .i64 0, .int .i64 0, .int .i64 0, .int .i64 0, .int .i64 0, .int .i64 0, .int .i64 0, .bool false] 73)) := (Below.refl _ w).alloc (Nat.le_refl _) _
  have hbox : StB (w.alloc (.cells #[.int .i64 0, .int .i64 0, .int .i64 0, .int .i64 0, .int .i64 0, .int .i64 0, .int .i64 0, .bool false] 73)) w.heap.size stNew := World.alloc_heap_new w _
  generalize hW1 : w.alloc (.cells #[.int .i64 0, .int .i64 0, .int .i64 0, .int .i64 0, .int .i64 0, .int .i64 0, .int .i64 0, .bool false] 73) = W1 at hB1 hbox
  have D1 := h.all hB1
  have HS : Hid (Calls Tryz.prog 32 #[.pointer (some ⟨x.kb, 0, none⟩), .int .i64 r] W1 fun e w' => e = .returned (.tuple #[.agg #[.int .i64 (roomK (d.k p) r).p, .int .i64 ((roomK (d.k p) r).c 0), .int .i64 ((roomK (d.k p) r).c 1), .int .i64 ((roomK (d.k p) r).c 2), .int .i64 ((roomK (d.k p) r).c 3), .int .i64 ((roomK (d.k p) r).c 4), .int .i64 ((roomK (d.k p) r).c 5), .bool (roomK (d.k p) r).f], wErr (errB (noRoom (d.k p) r))]) ∧ Below W1.heap.size W1 w') := D.state r D1.k (redo_ok hp _) hp
  obtain ⟨_, _, _, _, c0, _, _, _, _⟩ := D1.blk.cs
  clear h D1 hp
  unfold stA
  generalize roomK (d.k p) r = s at HS ⊢
  generalize wErr (errB (noRoom (d.k p) r)) = ev at HS ⊢
  go_enter Tryz.func31, Tryz.ntmps31
  go_upto_region 1 with fail
  clear hW1
  go_wp2_with (go_at_call 32; refine HS.out.mono ?_; rintro e w1 ⟨rfl, b1⟩; have hst : StB w1 w.heap.size stNew := (b1.block _ (Array.getElem?_eq_some_iff.1 hbox).1).trans hbox; obtain ⟨m0, m1, m2, m3, m4, m5, m6, m7⟩ := hst.cs; simp only [Nat.zero_add] at m1 m2 m3 m4 m5 m6 m7; have z0 := stb_fz hst 0; have z1 := stb_fz hst 1; have z2 := stb_fz hst 2; have z3 := stb_fz hst 3; have z4 := stb_fz hst 4; have z5 := stb_fz hst 5; have z6 := stb_fz hst 6; have z7 := stb_fz hst 7)
  refine bodyPost_ret (v := .tuple #[.agg #[.int .i64 s.p, .int .i64 (s.c 0), .int .i64 (s.c 1), .int .i64 (s.c 2), .int .i64 (s.c 3), .int .i64 (s.c 4), .int .i64 (s.c 5), .bool s.f], ev]) ?_ rfl ⟨rfl, below_st8 (hB1.trans (b1.mono hB1.size)) _ (Nat.le_refl _) _ _ _ _ _ _ _ _⟩
  simp [results, Tryz.results31, go_sem, m0, m1, m2, m3, m4, m5, m6, m7]
end
end Go.Proofs.YtajfgmlockjmhaiGreatDoor
namespace Go.Proofs.YtajfgmlockjmhaiGreatDoor
open Go.RowKit

set_option maxRecDepth 100000 in
set_option maxHeartbeats 2000000 in
theorem number3_long (s : ByteArray) (w : World) (h : 3 < s.size) :
    Calls Tryz.prog 114 #[.string s, .int .i64 3] w fun e w' => e = .returned (.tuple #[.int .i64 0, .bool false]) ∧ Below w.heap.size w w' := by
  go_enter Tryz.func114, Tryz.ntmps114
  go_wp2
  go_ret2
  exact ⟨rfl, Below.refl _ _⟩
set_option maxRecDepth 100000 in
set_option maxHeartbeats 2000000 in
theorem number3_bad (s : ByteArray) (w : World) (hl : s.size ≤ 3) (h : Lib.atoi s.data.toList = none) (he : ErrS w) :
    Calls Tryz.prog 114 #[.string s, .int .i64 3] w fun e w' => e = .returned (.tuple #[.int .i64 0, .bool false]) ∧ Below w.heap.size w w' := by
  have hat := atoi_no s (by omega) h w he
  clear h he
  go_enter Tryz.func114, Tryz.ntmps114
  go_wp2_with (go_at_call 152; refine hat.mono ?_; rintro e w1 ⟨t, p, rfl, b1⟩; clear hat)
  go_ret2
  exact ⟨rfl, b1⟩
set_option maxRecDepth 100000 in
set_option maxHeartbeats 2000000 in
theorem number3_neg (s : ByteArray) (n : Int) (w : World) (hl : s.size ≤ 3) (h : Lib.atoi s.data.toList = some n) (hn : n < 0) :
    Calls Tryz.prog 114 #[.string s, .int .i64 3] w fun e w' => e = .returned (.tuple #[.int .i64 0, .bool false]) ∧ Below w.heap.size w w' := by
  have hat := atoi_yes s n (by omega) h w
  clear h
  go_enter Tryz.func114, Tryz.ntmps114
  go_wp2_with (go_at_call 152; refine hat.mono ?_; rintro e w1 ⟨rfl, b1⟩; clear hat)
  go_ret2
  exact ⟨rfl, b1⟩
set_option maxRecDepth 100000 in
set_option maxHeartbeats 2000000 in
theorem number3_yes (s : ByteArray) (n : Int) (w : World) (hl : s.size ≤ 3) (h : Lib.atoi s.data.toList = some n) (hn : 0 ≤ n) (hp : Pow10 w) (hB : (Lib.itoa n == s.toList) = true) :
    Calls Tryz.prog 114 #[.string s, .int .i64 3] w fun e w' => e = .returned (.tuple #[.int .i64 n, .bool true]) ∧ Below w.heap.size w w' := by
  have hr := atoi_range (by simpa using (show s.size ≤ 18 by omega)) h
  have hat := atoi_yes s n (by omega) h w
  clear h
  go_enter Tryz.func114, Tryz.ntmps114
  go_wp2_with (first | (go_at_call 152; refine hat.mono ?_; rintro e w1 ⟨rfl, b1⟩; clear hat) | (go_at_call 105; refine (itoa_any n hr.1 hr.2 w1 (hp.all b1)).mono ?_; rintro e w2 ⟨rfl, b2⟩))
  go_ret2
  exact ⟨rfl, b1.trans (b2.mono b1.size)⟩
set_option maxRecDepth 100000 in
set_option maxHeartbeats 2000000 in
theorem number3_other (s : ByteArray) (n : Int) (w : World) (hl : s.size ≤ 3) (h : Lib.atoi s.data.toList = some n) (hn : 0 ≤ n) (hp : Pow10 w) (hB : (Lib.itoa n == s.toList) = false) :
    Calls Tryz.prog 114 #[.string s, .int .i64 3] w fun e w' => e = .returned (.tuple #[.int .i64 0, .bool false]) ∧ Below w.heap.size w w' := by
  have hr := atoi_range (by simpa using (show s.size ≤ 18 by omega)) h
  have hat := atoi_yes s n (by omega) h w
  clear h
  go_enter Tryz.func114, Tryz.ntmps114
  go_wp2_with (first | (go_at_call 152; refine hat.mono ?_; rintro e w1 ⟨rfl, b1⟩; clear hat) | (go_at_call 105; refine (itoa_any n hr.1 hr.2 w1 (hp.all b1)).mono ?_; rintro e w2 ⟨rfl, b2⟩))
  go_ret2
  exact ⟨rfl, b1.trans (b2.mono b1.size)⟩

theorem number3_any (s : ByteArray) (w : World) (ht : Tabs2 w) :
    Calls Tryz.prog 114 #[.string s, .int .i64 3] w fun e w' => e = .returned (.tuple #[.int .i64 ((numB3 s.data.toList).getD 0), .bool (numB3 s.data.toList).isSome]) ∧ Below w.heap.size w w' := by
  have hsl : s.data.toList.length = s.size := by simp
  have hst : s.toList = s.data.toList := Lib.toList_data s
  by_cases h1 : 3 < s.size
  · rw [numB3_long (by omega)]; exact number3_long s w h1
  · cases h2 : Lib.atoi s.data.toList with
    | none => rw [numB3_bad h2]; exact number3_bad s w (by omega) h2 ht.err
    | some n =>
      by_cases h3 : n < 0
      · rw [numB3_neg h2 h3]; exact number3_neg s n w (by omega) h2 h3
      · by_cases h4 : Lib.itoa n = s.data.toList
        · rw [numB3_yes (by omega) h2 (by omega) h4]; exact number3_yes s n w (by omega) h2 (by omega) ht.tabs.pow (by rw [hst]; simpa using h4)
        · rw [numB3_other h2 h4]; exact number3_other s n w (by omega) h2 (by omega) ht.tabs.pow (by rw [hst]; simpa using h4)
end Go.Proofs.YtajfgmlockjmhaiGreatDoor
namespace Go.Proofs.YtajfgmlockjmhaiGreatDoor
open Go.RowKit

set_option maxRecDepth 100000 in
set_option maxHeartbeats 2000000 in
theorem number7_long (s : ByteArray) (w : World) (h : 7 < s.size) :
    Calls Tryz.prog 114 #[.string s, .int .i64 7] w fun e w' => e = .returned (.tuple #[.int .i64 0, .bool false]) ∧ Below w.heap.size w w' := by
  go_enter Tryz.func114, Tryz.ntmps114
  go_wp2
  go_ret2
  exact ⟨rfl, Below.refl _ _⟩
set_option maxRecDepth 100000 in
set_option maxHeartbeats 2000000 in
theorem number7_bad (s : ByteArray) (w : World) (hl : s.size ≤ 7) (h : Lib.atoi s.data.toList = none) (he : ErrS w) :
    Calls Tryz.prog 114 #[.string s, .int .i64 7] w fun e w' => e = .returned (.tuple #[.int .i64 0, .bool false]) ∧ Below w.heap.size w w' := by
  have hat := atoi_no s (by omega) h w he
  clear h he
  go_enter Tryz.func114, Tryz.ntmps114
  go_wp2_with (go_at_call 152; refine hat.mono ?_; rintro e w1 ⟨t, p, rfl, b1⟩; clear hat)
  go_ret2
  exact ⟨rfl, b1⟩
set_option maxRecDepth 100000 in
set_option maxHeartbeats 2000000 in
theorem number7_neg (s : ByteArray) (n : Int) (w : World) (hl : s.size ≤ 7) (h : Lib.atoi s.data.toList = some n) (hn : n < 0) :
    Calls Tryz.prog 114 #[.string s, .int .i64 7] w fun e w' => e = .returned (.tuple #[.int .i64 0, .bool false]) ∧ Below w.heap.size w w' := by
  have hat := atoi_yes s n (by omega) h w
  clear h
  go_enter Tryz.func114, Tryz.ntmps114
  go_wp2_with (go_at_call 152; refine hat.mono ?_; rintro e w1 ⟨rfl, b1⟩; clear hat)
  go_ret2
  exact ⟨rfl, b1⟩
set_option maxRecDepth 100000 in
set_option maxHeartbeats 2000000 in
theorem number7_yes (s : ByteArray) (n : Int) (w : World) (hl : s.size ≤ 7) (h : Lib.atoi s.data.toList = some n) (hn : 0 ≤ n) (hp : Pow10 w) (hB : (Lib.itoa n == s.toList) = true) :
    Calls Tryz.prog 114 #[.string s, .int .i64 7] w fun e w' => e = .returned (.tuple #[.int .i64 n, .bool true]) ∧ Below w.heap.size w w' := by
  have hr := atoi_range (by simpa using (show s.size ≤ 18 by omega)) h
  have hat := atoi_yes s n (by omega) h w
  clear h
  go_enter Tryz.func114, Tryz.ntmps114
  go_wp2_with (first | (go_at_call 152; refine hat.mono ?_; rintro e w1 ⟨rfl, b1⟩; clear hat) | (go_at_call 105; refine (itoa_any n hr.1 hr.2 w1 (hp.all b1)).mono ?_; rintro e w2 ⟨rfl, b2⟩))
  go_ret2
  exact ⟨rfl, b1.trans (b2.mono b1.size)⟩
set_option maxRecDepth 100000 in
set_option maxHeartbeats 2000000 in
theorem number7_other (s : ByteArray) (n : Int) (w : World) (hl : s.size ≤ 7) (h : Lib.atoi s.data.toList = some n) (hn : 0 ≤ n) (hp : Pow10 w) (hB : (Lib.itoa n == s.toList) = false) :
    Calls Tryz.prog 114 #[.string s, .int .i64 7] w fun e w' => e = .returned (.tuple #[.int .i64 0, .bool false]) ∧ Below w.heap.size w w' := by
  have hr := atoi_range (by simpa using (show s.size ≤ 18 by omega)) h
  have hat := atoi_yes s n (by omega) h w
  clear h
  go_enter Tryz.func114, Tryz.ntmps114
  go_wp2_with (first | (go_at_call 152; refine hat.mono ?_; rintro e w1 ⟨rfl, b1⟩; clear hat) | (go_at_call 105; refine (itoa_any n hr.1 hr.2 w1 (hp.all b1)).mono ?_; rintro e w2 ⟨rfl, b2⟩))
  go_ret2
  exact ⟨rfl, b1.trans (b2.mono b1.size)⟩

theorem number7_any (s : ByteArray) (w : World) (ht : Tabs2 w) :
    Calls Tryz.prog 114 #[.string s, .int .i64 7] w fun e w' => e = .returned (.tuple #[.int .i64 ((numB7 s.data.toList).getD 0), .bool (numB7 s.data.toList).isSome]) ∧ Below w.heap.size w w' := by
  have hsl : s.data.toList.length = s.size := by simp
  have hst : s.toList = s.data.toList := Lib.toList_data s
  by_cases h1 : 7 < s.size
  · rw [numB7_long (by omega)]; exact number7_long s w h1
  · cases h2 : Lib.atoi s.data.toList with
    | none => rw [numB7_bad h2]; exact number7_bad s w (by omega) h2 ht.err
    | some n =>
      by_cases h3 : n < 0
      · rw [numB7_neg h2 h3]; exact number7_neg s n w (by omega) h2 h3
      · by_cases h4 : Lib.itoa n = s.data.toList
        · rw [numB7_yes (by omega) h2 (by omega) h4]; exact number7_yes s n w (by omega) h2 (by omega) ht.tabs.pow (by rw [hst]; simpa using h4)
        · rw [numB7_other h2 h4]; exact number7_other s n w (by omega) h2 (by omega) ht.tabs.pow (by rw [hst]; simpa using h4)
end Go.Proofs.YtajfgmlockjmhaiGreatDoor
namespace Go.Proofs.YtajfgmlockjmhaiGreatDoor
open Go.RowKit

/-- How many steps are left behind one more. -/
def lessI (fl : Int) : Int := if 0 < fl then IntKind.wrap .i64 (fl - 1) else fl
set_option maxRecDepth 100000 in
set_option maxHeartbeats 2000000 in
theorem lgstep_any (b : Nat) (cv sv wv kv rv : Value) (t sf fl : Int) (st : Bool) (w : World) (h : LBk w b cv t sv wv kv rv sf fl st) :
    Calls Tryz.prog 50 #[.pointer (some ⟨b, 0, none⟩)] w fun e w' => e = .returned (.bool (!decide (fl = 0))) ∧ LBk w' b cv t sv wv kv rv sf (lessI fl) (decide (fl = 0)) ∧ KTouch [b] w w' := by
  obtain ⟨_, _, _, _, _, _, _, c7, c8⟩ := h.cs
  have f7 := h.free 7
  have f8 := h.free 8
  have H : Hid (LBk w b cv t sv wv kv rv sf fl st) := h
  clear h
  by_cases h0 : fl = 0
  · subst h0
    go_enter Tryz.func50, Tryz.ntmps50
    go_wp2
    go_ret
    exact ⟨rfl, H.out.stop true, KTouch.set w (by simp) _ _⟩
  · have h0' : (fl == 0) = false := by simpa using h0
    have HD : Hid (decide (fl = 0) = false) := decide_eq_false h0
    by_cases h1 : 0 < fl
    · have HL : Hid (lessI fl = wrap64 (fl - 1)) := (if_pos h1).trans (IntWalk.i64_left _)
      clear h0
      go_enter Tryz.func50, Tryz.ntmps50
      go_wp2
      go_ret
      rw [HL.out, HD.out]
      exact ⟨rfl, (H.out.stop false).fail _, (KTouch.set w (by simp) _ _).trans (KTouch.set _ (by simp) _ _)⟩
    · have HL : Hid (lessI fl = fl) := if_neg h1
      have h1' : decide (0 < fl) = false := decide_eq_false h1
      clear h0
      go_enter Tryz.func50, Tryz.ntmps50
      go_wp2
      go_ret
      rw [HL.out, HD.out]
      exact ⟨rfl, H.out.stop false, KTouch.set w (by simp) _ _⟩
end Go.Proofs.YtajfgmlockjmhaiGreatDoor
namespace Go.Proofs.YtajfgmlockjmhaiGreatDoor
open Go.RowKit
section
variable {G : World → Prop} {D : KerC G} {w0 : World} {p : PD} {d : LgD} {lb : Nat} {x : LW}

set_option maxRecDepth 100000 in
set_option maxHeartbeats 4000000 in
theorem lgsync_any (W : World) (h : GL D w0 W p d (d.k p) lb x) :
    Calls Tryz.prog 20 #[.pointer (some ⟨lb, 0, none⟩)] W fun e w' => e = .returned (wErr (syncE d)) ∧ GL D w0 w' p (syncL d) ((syncL d).k p) lb x ∧ KTouch (x.F lb) W w' := by
  obtain ⟨_, _, _, _, _, _, _, _, c8⟩ := h.blk.cs
  have hlbF : ∀ m ∈ [lb], m ∈ x.F lb := fun m hm => by rw [List.mem_singleton] at hm; rw [hm]; exact x.mem0 lb
  cases hst : d.stop with
  | true =>
    rw [hst] at c8
    have HE : Hid (syncE d = 6 ∧ syncL d = d) := by
      refine ⟨?_, ?_⟩
      · unfold syncE
        rw [if_pos (Or.inl hst)]
      · unfold syncL
        rw [if_pos hst]
    have H : Hid (GL D w0 W p d (d.k p) lb x) := h
    clear h
    go_enter Tryz.func20, Tryz.ntmps20
    go_wp2
    go_ret
    exact ⟨by rw [HE.out.1]; rfl, by rw [HE.out.2]; exact H.out, KTouch.refl _ _⟩
  | false =>
    rw [hst] at c8
    have hq := lgstep_any _ _ _ _ _ _ _ _ _ _ W h.blk
    cases hla : d.last with
    | true =>
      have hfl : d.fail = 0 := by
        unfold LgD.last at hla
        exact of_decide_eq_true hla
      have HE : Hid (syncE d = 6 ∧ syncL d = ⟨d.recs, d.part, d.safe, true, d.fail⟩) := by
        refine ⟨?_, ?_⟩
        · unfold syncE
          rw [if_pos (Or.inr hla)]
        · unfold syncL
          rw [if_neg (by rw [hst]; decide), if_pos hla]
      rw [hfl, show decide ((0 : Int) = 0) = true from rfl, show lessI 0 = 0 from rfl, Bool.not_true] at hq
      have HC : Hid (∀ w', LBk w' lb x.cv p.ticks x.sv x.wv (.pointer (some ⟨x.kb, 0, none⟩)) x.rv (d.safe : Nat) 0 true → KTouch [lb] W w' → GL D w0 w' p (syncL d) ((syncL d).k p) lb x ∧ KTouch (x.F lb) W w') := fun w' h1 h2 => by
        rw [HE.out.2]
        exact ⟨h.cells h2 (by rw [hfl]; exact h1) (h.tx.same rfl rfl), h2.mono hlbF⟩
      clear h hla
      go_enter Tryz.func20, Tryz.ntmps20
      go_wp2_with (go_at_call 50; refine hq.mono ?_; rintro e w1 ⟨rfl, h1, h2⟩; clear hq)
      go_ret
      exact ⟨by rw [HE.out.1]; rfl, HC.out w1 h1 h2⟩
    | false =>
      have hfl : d.fail ≠ 0 := by
        unfold LgD.last at hla
        exact of_decide_eq_false hla
      have HE : Hid (syncE d = 0 ∧ syncL d = ⟨d.recs, d.part, d.bytes, d.stop, d.less⟩) := by
        refine ⟨?_, ?_⟩
        · unfold syncE
          rw [if_neg (by rw [hst, hla]; decide)]
        · unfold syncL
          rw [if_neg (by rw [hst]; decide), if_neg (by rw [hla]; decide)]
      rw [decide_eq_false hfl, Bool.not_false] at hq
      have HC : Hid (∀ w', LBk w' lb x.cv p.ticks x.sv x.wv (.pointer (some ⟨x.kb, 0, none⟩)) x.rv (d.bytes : Nat) (lessI d.fail) false → KTouch [lb] W w' → GL D w0 w' p (syncL d) ((syncL d).k p) lb x ∧ KTouch (x.F lb) W w') := fun w' h1 h2 => by
        rw [HE.out.2]
        exact ⟨h.cells h2 (by rw [hst]; exact h1) (h.tx.same rfl rfl), h2.mono hlbF⟩
      have hlen := h.tx.len
      obtain ⟨ao, cap, hrv⟩ : ∃ ao cap, x.rv = .slice ao d.bytes cap := by
        rcases h.row.2 with ⟨hv, hn⟩ | ⟨g, cap, cur, hv, _⟩
        · exact ⟨none, 0, by rw [hv, ← hlen, hn]⟩
        · exact ⟨_, cap, by rw [hv, hlen]⟩
      clear h hla hlen
      rw [hrv] at hq HC
      generalize d.bytes = BY at *
      go_enter Tryz.func20, Tryz.ntmps20
      go_wp2_with (go_at_call 50; refine hq.mono ?_; rintro e w1 ⟨rfl, h1, h2⟩; clear hq; obtain ⟨_, _, _, _, _, c5, c6, _, _⟩ := h1.cs; have f6 := h1.free 6)
      go_ret
      exact ⟨by rw [HE.out.1]; rfl, HC.out _ (h1.safe _) (h2.trans (KTouch.set _ (by simp) _ _))⟩
end
end Go.Proofs.YtajfgmlockjmhaiGreatDoor
namespace Go.Proofs.YtajfgmlockjmhaiGreatDoor

/-- Numbers of at most seven digits, all of them. -/
def nums7 : List (List UInt8) → Option (List Int)
  | [] => some []
  | u :: ps => match numB7 u, nums7 ps with
    | some n, some l => some (n :: l)
    | _, _ => none
theorem nums7_back : ∀ {ps : List (List UInt8)} {ns : List Int}, nums7 ps = some ns → ps.flatMap (32 :: ·) = tail ns ∧ ns.length = ps.length ∧ ∀ n ∈ ns, 0 ≤ n
  | [], ns, h => by
    obtain rfl := Option.some.inj h
    exact ⟨rfl, rfl, fun n hn => (by cases hn)⟩
  | u :: ps, ns, h => by
    unfold nums7 at h
    cases h1 : numB7 u with
    | none => rw [h1] at h; cases h
    | some n =>
      cases h2 : nums7 ps with
      | none => rw [h1, h2] at h; cases h
      | some l =>
        rw [h1, h2] at h
        obtain rfl := Option.some.inj h
        obtain ⟨a1, a2, a3⟩ := nums7_back h2
        obtain ⟨_, b1, b2⟩ := numB7_some h1
        refine ⟨?_, by simp [a2], fun m hm => ?_⟩
        · rw [List.flatMap_cons, a1]
          simp [tail, b2]
        · rcases List.mem_cons.1 hm with rfl | hm
          · exact b1
          · exact a3 m hm
theorem nums7_itoa : ∀ (zs : List Int), (∀ z ∈ zs, 0 ≤ z ∧ z ≤ 9999999) → nums7 (zs.map Lib.itoa) = some zs
  | [], _ => rfl
  | z :: zs, h => by
    have h0 := h z (List.mem_cons_self ..)
    rw [List.map_cons, nums7, num7_itoa h0.1 h0.2, nums7_itoa zs (fun y hy => h y (List.mem_cons_of_mem _ hy))]
/-- A line: its word, and its numbers. -/
def wnL (u : List UInt8) : Option (List UInt8 × List Int) := match cutB 32 u with
  | [] => none
  | w :: ps => (nums7 ps).map fun ns => (w, ns)
theorem wn_back {u w : List UInt8} {ns : List Int} (h : wnL u = some (w, ns)) : w ++ tail ns = u ∧ ∀ n ∈ ns, 0 ≤ n := by
  unfold wnL at h
  split at h
  · cases h
  · rename_i w' ps hc
    obtain ⟨ns', hn, e⟩ := Option.map_eq_some_iff.1 h
    injection e with e1 e2
    subst e1
    subst e2
    obtain ⟨a1, _, a3⟩ := nums7_back hn
    have hj := cut_join 32 u [] _ _ hc
    rw [List.nil_append, a1] at hj
    exact ⟨hj.symm, a3⟩
theorem wn_line {w : List UInt8} (hw : (32 : UInt8) ∉ w) (zs : List Int) (h : ∀ z ∈ zs, 0 ≤ z ∧ z ≤ 9999999) : wnL (w ++ tail zs) = some (w, zs) := by
  unfold wnL
  rw [cut_body hw zs (fun z hz => (h z hz).1)]
  simp only
  rw [nums7_itoa zs h]
  rfl
/-! A kernel as lines. -/
def snTimeW : List UInt8 := [116, 105, 109, 101]
def snRoomW : List UInt8 := [114, 111, 111, 109]
def snWireW : List UInt8 := [119, 105, 114, 101]
def stN (s : St) : List Int := [s.p, s.c 0, s.c 1, s.c 2, s.c 3, s.c 4, s.c 5, if s.f = true then 1 else 0]
def sroomL (s : St) : List UInt8 := snRoomW ++ tail (stN s)
def swireL (l : LnD) : List UInt8 := snWireW ++ tail (l.ls :: l.xs)
def stimeL (t : Int) : List UInt8 := snTimeW ++ tail [t]
def snL (k : KD) : List (List UInt8) := stimeL k.time :: (k.rooms.map sroomL ++ k.lines.map swireL)
def snB (k : KD) : List UInt8 := endL (snL k)
/-- A state of numbers. -/
def stOf : List Int → Option St
  | [a, c0, c1, c2, c3, c4, c5, f] => if 1 < f then none else some ⟨a, fun i => if i = 0 then c0 else if i = 1 then c1 else if i = 2 then c2 else if i = 3 then c3 else if i = 4 then c4 else if i = 5 then c5 else 0, decide (f = 1)⟩
  | _ => none
/-- No cell behind the sixth. -/
def Tight (s : St) : Prop := ∀ i, 6 ≤ i → s.c i = 0
theorem stOf_read {s : St} (h : Tight s) : stOf (stN s) = some s := by
  obtain ⟨a, c, f⟩ := s
  unfold stN stOf
  have hf : ¬ (1 : Int) < (if f = true then 1 else 0) := by cases f <;> simp
  simp only
  rw [if_neg hf]
  congr 1
  have hc : (fun i => if i = 0 then c 0 else if i = 1 then c 1 else if i = 2 then c 2 else if i = 3 then c 3 else if i = 4 then c 4 else if i = 5 then c 5 else 0) = c := by
    funext i
    by_cases h6 : 6 ≤ i
    · rw [if_neg (by omega), if_neg (by omega), if_neg (by omega), if_neg (by omega), if_neg (by omega), if_neg (by omega)]
      exact (h i h6).symm
    · match i, h6 with
      | 0, _ => rfl
      | 1, _ => rfl
      | 2, _ => rfl
      | 3, _ => rfl
      | 4, _ => rfl
      | 5, _ => rfl
      | n + 6, h6 => omega
  rw [hc]
  cases f <;> rfl
/-- The room that a line is; the line that it is. -/
def sroomOf (u : List UInt8) : Option St := match wnL u with
  | some (w, ns) => if w = snRoomW then stOf ns else none
  | none => none
def swireOf (x : W4) (u : List UInt8) : Option LnD := match wnL u with
  | some (w, n :: ns) => if w = snWireW then some ⟨x, ns, n⟩ else none
  | _ => none
def stimeOf (u : List UInt8) : Option Int := match wnL u with
  | some (w, [n]) => if w = snTimeW then some n else none
  | _ => none
theorem sroom_read {s : St} (ht : Tight s) (h : ∀ n ∈ stN s, 0 ≤ n ∧ n ≤ 9999999) : sroomOf (sroomL s) = some s := by
  unfold sroomOf sroomL
  rw [wn_line (by decide) _ h]
  simp only
  rw [if_pos trivial, stOf_read ht]
theorem swire_read {l : LnD} {x : W4} (hx : l.w = x) (h : ∀ n ∈ l.ls :: l.xs, 0 ≤ n ∧ n ≤ 9999999) : swireOf x (swireL l) = some l := by
  unfold swireOf swireL
  rw [wn_line (by decide) _ h]
  simp only
  rw [if_pos trivial, ← hx]
theorem stime_read {t : Int} (h : 0 ≤ t ∧ t ≤ 9999999) : stimeOf (stimeL t) = some t := by
  unfold stimeOf stimeL
  rw [wn_line (by decide) _ (fun z hz => by rw [List.mem_singleton] at hz; subst hz; exact h)]
  simp only
  rw [if_pos trivial]
/-- All of some lines. -/
def sroomsOf : List (List UInt8) → Option (List St)
  | [] => some []
  | u :: ls => match sroomOf u, sroomsOf ls with
    | some s, some l => some (s :: l)
    | _, _ => none
def swiresOf : List W4 → List (List UInt8) → Option (List LnD)
  | [], [] => some []
  | x :: xs, u :: ls => match swireOf x u, swiresOf xs ls with
    | some a, some l => some (a :: l)
    | _, _ => none
  | _, _ => none
theorem srooms_read : ∀ {l : List St}, (∀ s ∈ l, Tight s ∧ ∀ n ∈ stN s, 0 ≤ n ∧ n ≤ 9999999) → sroomsOf (l.map sroomL) = some l
  | [], _ => rfl
  | s :: l, h => by
    have h0 := h s (List.mem_cons_self ..)
    rw [List.map_cons, sroomsOf, sroom_read h0.1 h0.2, srooms_read (fun x hx => h x (List.mem_cons_of_mem _ hx))]
theorem swires_read : ∀ {l : List LnD}, (∀ a ∈ l, ∀ n ∈ a.ls :: a.xs, 0 ≤ n ∧ n ≤ 9999999) → swiresOf (l.map (·.w)) (l.map swireL) = some l
  | [], _ => rfl
  | a :: l, h => by
    have h0 := h a (List.mem_cons_self ..)
    rw [List.map_cons, List.map_cons, swiresOf, swire_read rfl h0, swires_read (fun x hx => h x (List.mem_cons_of_mem _ hx))]
/-- A kernel of lines: the time, so many rooms, then the wires. -/
def snOf (p : PD) : List (List UInt8) → Option KD
  | [] => none
  | u :: ls => match stimeOf u, sroomsOf (ls.take p.code.length), swiresOf p.wires (ls.drop p.code.length) with
    | some t, some rs, some ws => some ⟨rs, ws, t⟩
    | _, _, _ => none
/-- May it be so in the plan? -/
def lineBad (l : LnD) : Bool := decide (l.w.2.2.2 < (l.xs.length : Int)) || (decide (l.w.2.2.1 = 1) && decide (l.ls ≠ 0)) || l.xs.any fun n => decide (999 < n)
def roomsBad : List (List O3) → List St → Bool
  | c :: cs, s :: ss => !stOk s c.length || roomsBad cs ss
  | _, _ => false
def snBad (p : PD) (k : KD) : Bool := roomsBad p.code k.rooms || k.lines.any lineBad
/-- A text as a kernel of a plan that is right: the kernel, and the fault. -/
def snK (p : PD) (o : Option KD) : KD × Int := match o with
  | none => (newK p, 2)
  | some k => if snBad p k = true then (newK p, 1) else (k, 0)
def snP (p : PD) (t : List UInt8) : KD × Int :=
  if (cutB 10 t).getLast? = some [] ∧ (cutB 10 t).length = 2 + p.code.length + p.wires.length then snK p (snOf p (cutB 10 t).dropLast) else (newK p, 2)
theorem snL_len (k : KD) : (snL k).length = 1 + k.rooms.length + k.lines.length := by
  simp [snL]
  omega
theorem sroomL_not (s : St) (h : ∀ n ∈ stN s, 0 ≤ n) : (10 : UInt8) ∉ sroomL s := not_word (by decide) h
theorem snL_not {k : KD} (h0 : 0 ≤ k.time) (h1 : ∀ s ∈ k.rooms, ∀ n ∈ stN s, 0 ≤ n) (h2 : ∀ a ∈ k.lines, ∀ n ∈ a.ls :: a.xs, 0 ≤ n) : ∀ u ∈ snL k, (10 : UInt8) ∉ u := by
  intro u hu
  unfold snL at hu
  rcases List.mem_cons.1 hu with rfl | hu
  · exact not_word (by decide) (fun z hz => by rw [List.mem_singleton] at hz; subst hz; exact h0)
  · rcases List.mem_append.1 hu with hu | hu
    · obtain ⟨s, hs, rfl⟩ := List.mem_map.1 hu
      exact sroomL_not s (h1 s hs)
    · obtain ⟨a, ha, rfl⟩ := List.mem_map.1 hu
      exact not_word (by decide) (h2 a ha)
theorem sn_cut {k : KD} (h0 : 0 ≤ k.time) (h1 : ∀ s ∈ k.rooms, ∀ n ∈ stN s, 0 ≤ n) (h2 : ∀ a ∈ k.lines, ∀ n ∈ a.ls :: a.xs, 0 ≤ n) : cutB 10 (snB k) = snL k ++ [[]] := cut_endL _ (snL_not h0 h1 h2)
/-- What is printed is read as it was. -/
theorem sn_read {p : PD} {k : KD} (hr : k.rooms.length = p.code.length) (hw : k.lines.map (·.w) = p.wires) (h0 : 0 ≤ k.time ∧ k.time ≤ 9999999) (h1 : ∀ s ∈ k.rooms, Tight s ∧ ∀ n ∈ stN s, 0 ≤ n ∧ n ≤ 9999999) (h2 : ∀ a ∈ k.lines, ∀ n ∈ a.ls :: a.xs, 0 ≤ n ∧ n ≤ 9999999) (hb : snBad p k = false) : snP p (snB k) = (k, 0) := by
  have hc := sn_cut (k := k) h0.1 (fun s hs n hn => ((h1 s hs).2 n hn).1) (fun a ha n hn => (h2 a ha n hn).1)
  have hwl : k.lines.length = p.wires.length := by rw [← hw, List.length_map]
  have ho : snOf p (snL k) = some k := by
    unfold snL snOf
    simp only
    have e1 : (k.rooms.map sroomL ++ k.lines.map swireL).take p.code.length = k.rooms.map sroomL := List.take_left' (by rw [List.length_map, hr])
    have e2 : (k.rooms.map sroomL ++ k.lines.map swireL).drop p.code.length = k.lines.map swireL := List.drop_left' (by rw [List.length_map, hr])
    rw [e1, e2, stime_read h0, srooms_read h1, ← hw, swires_read h2]
  unfold snP
  rw [hc, List.getLast?_concat, if_pos ⟨rfl, by rw [List.length_append, snL_len, hr, hwl]; simp; omega⟩, List.dropLast_concat, ho]
  unfold snK
  simp only
  rw [if_neg (by rw [hb]; decide)]
end Go.Proofs.YtajfgmlockjmhaiGreatDoor
namespace Go.Proofs.YtajfgmlockjmhaiGreatDoor

theorem n7_snoc (ps : List (List UInt8)) (ns : List Int) (p : List UInt8) (n : Int) (h : nums7 ps = some ns) (hn : numB7 p = some n) : nums7 (ps ++ [p]) = some (ns ++ [n]) := by
  induction ps generalizing ns with
  | nil => obtain rfl := Option.some.inj h; simp [nums7, hn]
  | cons q qs ih =>
    unfold nums7 at h
    cases hq : numB7 q with
    | none => rw [hq] at h; cases h
    | some m =>
      cases hqs : nums7 qs with
      | none => rw [hq, hqs] at h; cases h
      | some ms =>
        rw [hq, hqs] at h
        obtain rfl := Option.some.inj h
        rw [List.cons_append, nums7, hq, ih ms hqs]
        rfl
theorem n7_bad {ps qs : List (List UInt8)} {p : List UInt8} (hn : numB7 p = none) : nums7 (ps ++ p :: qs) = none := by
  induction ps with
  | nil => rw [List.nil_append, nums7, hn]
  | cons q rs ih =>
    rw [List.cons_append, nums7, ih]
    cases numB7 q <;> rfl
theorem n7_len {ps : List (List UInt8)} {ns : List Int} (h : nums7 ps = some ns) : ns.length = ps.length := (nums7_back h).2.1
theorem wnL_no {u : List UInt8} (h : (32 : UInt8) ∉ u) : wnL u = some (u, []) := by
  unfold wnL cutB
  rw [cutGo_none 32 u [] h]
  rfl
theorem wnL_at {a v : List UInt8} (h : (32 : UInt8) ∉ a) : wnL (a ++ 32 :: v) = (nums7 (cutB 32 v)).map fun ns => (a, ns) := by
  unfold wnL
  rw [show cutB 32 (a ++ 32 :: v) = a :: cutB 32 v from cutGo_at 32 a [] v h]
/-- A line, with its end, as a word, and numbers. -/
def read7B (l : List UInt8) : Option (List UInt8 × List Int) := if l.getLast? = some 10 then wnL l.dropLast else none
theorem read7B_snoc (u : List UInt8) : read7B (u ++ [10]) = wnL u := by simp [read7B]
theorem read7B_none {l : List UInt8} (h : ∀ u, l ≠ u ++ [10]) : read7B l = none := by
  unfold read7B
  rw [if_neg]
  intro e
  obtain ⟨u, hu⟩ := List.getLast?_eq_some_iff.1 e
  exact h u hu
end Go.Proofs.YtajfgmlockjmhaiGreatDoor
namespace Go.Proofs.YtajfgmlockjmhaiGreatDoor

/-- No cell behind the sixth is laid; no sample has lost anything. -/
structure Keep (k : KD) : Prop where
  tight : ∀ s ∈ k.rooms, Tight s
  samp : ∀ l ∈ k.lines, l.w.2.2.1 = 1 → l.ls = 0
theorem upd_tight {c : Nat → Int} (h : ∀ i, 6 ≤ i → c i = 0) {a : Nat} (ha : a < 6) (n : Int) : ∀ i, 6 ≤ i → upd c a n i = 0 := fun i hi => by
  unfold upd
  rw [if_neg (by omega)]
  exact h i hi
theorem step_tight {o : O3} {s : St} {n : Nat} {got : Int} {is : Bool} {m : Int} (ho : ok3 m o = true) (h : Tight s) : Tight (stepF o s n got is) := by
  have ha : o.2.1.toNat < 6 := by
    have h1 := (ok3_range ho).2.2
    have h2 := (bA_le o.1).2
    omega
  unfold stepF
  split
  · exact h
  · show ∀ i, 6 ≤ i → cellsF o s.c got is i = 0
    unfold cellsF
    repeat' split
    all_goals first | exact upd_tight h ha _ | exact h
theorem new_keep (p : PD) : Keep (newK p) := by
  refine ⟨fun s hs => ?_, fun l hl _ => ?_⟩
  · unfold newK at hs
    obtain ⟨_, _, rfl⟩ := List.mem_map.1 hs
    exact fun _ _ => rfl
  · unfold newK at hl
    obtain ⟨_, _, rfl⟩ := List.mem_map.1 hl
    rfl
theorem rest_keep (l : LnD) : (restL l).w = l.w ∧ (restL l).ls = l.ls := by
  unfold restL
  split
  · exact ⟨rfl, rfl⟩
  · split <;> exact ⟨rfl, rfl⟩
theorem put_keep (l : LnD) (n : Int) : (putL l n).w = l.w ∧ (l.w.2.2.1 = 1 → (putL l n).ls = l.ls) := by
  unfold putL
  split
  · exact ⟨rfl, fun _ => rfl⟩
  · rename_i h
    split
    · exact ⟨rfl, fun e => absurd e h⟩
    · exact ⟨rfl, fun e => absurd e h⟩
theorem getD_samp {ls : List LnD} (h : ∀ l ∈ ls, l.w.2.2.1 = 1 → l.ls = 0) (i : Nat) : (ls.getD i LnD.none).w.2.2.1 = 1 → (ls.getD i LnD.none).ls = 0 := by
  intro e
  cases hi : ls[i]? with
  | none =>
    rw [List.getD, hi]
    rfl
  | some l =>
    rw [List.getD, hi] at e ⊢
    exact h l (List.mem_of_getElem? hi) e
theorem lines_keep {k : KD} (h : ∀ l ∈ k.lines, l.w.2.2.1 = 1 → l.ls = 0) (o : O3) (s : St) (sent : Int) : ∀ l ∈ linesS (linesT k o s) o sent, l.w.2.2.1 = 1 → l.ls = 0 := by
  have h1 : ∀ l ∈ linesT k o s, l.w.2.2.1 = 1 → l.ls = 0 := by
    unfold linesT
    split
    · intro l hl e
      rcases List.mem_or_eq_of_mem_set hl with hl | rfl
      · exact h l hl e
      · obtain ⟨e1, e2⟩ := rest_keep (lineAt k o)
        rw [e1] at e
        rw [e2]
        exact getD_samp h _ e
    · exact h
  unfold linesS
  split
  · intro l hl e
    rcases List.mem_or_eq_of_mem_set hl with hl | rfl
    · exact h1 l hl e
    · obtain ⟨e1, e2⟩ := put_keep ((linesT k o s).getD o.2.2.toNat LnD.none) sent
      rw [e1] at e
      rw [e2 e]
      exact getD_samp h1 _ e
  · exact h1
theorem tick_keep {p : PD} {k : KD} (hp : plchk p = 0) (hk : KOk p k) (h : Keep k) : Keep (tickK p p.spans k).1 := by
  have hw := (who_room hp (k.time % p.ticks)).2
  unfold tickK
  simp only
  split
  · exact ⟨h.tight, h.samp⟩
  · rename_i hneg
    obtain ⟨rn, hrn⟩ : ∃ n : Nat, hold p.spans (k.time % p.ticks) = n := ⟨(hold p.spans (k.time % p.ticks)).toNat, by omega⟩
    rw [hrn] at hw ⊢
    have hlt : rn < p.code.length := by simpa using hw (by omega)
    obtain ⟨c, s, o, ht⟩ := turn_of hp hk hlt
    obtain ⟨e1, e2, e3⟩ := ht.at
    rw [Int.toNat_natCast]
    unfold turnK
    simp only [e1, e2, e3]
    refine ⟨fun s' hs' => ?_, lines_keep h.samp o s _⟩
    rcases List.mem_or_eq_of_mem_set hs' with hs' | rfl
    · exact h.tight s' hs'
    · exact step_tight ht.ok (h.tight s (List.mem_of_getElem? ht.hs))
theorem kT_keep {p : PD} (hp : plchk p = 0) : ∀ n, Keep (kT p n)
  | 0 => new_keep p
  | n + 1 => tick_keep hp (kT_ok hp n) (kT_keep hp n)
/-- A kernel whose numbers are small enough to be printed. -/
structure SnSmall (k : KD) : Prop where
  rl : k.rooms.length ≤ 5
  ll : k.lines.length ≤ 12
  tm : 0 ≤ k.time ∧ k.time ≤ 100000000
  rooms : ∀ s ∈ k.rooms, ∀ n ∈ stN s, 0 ≤ n ∧ n ≤ 100000000
  lines : ∀ l ∈ k.lines, ∀ n ∈ l.ls :: l.xs, 0 ≤ n ∧ n ≤ 100000000
  deep : ∀ l ∈ k.lines, l.xs.length ≤ 6
theorem stN_small {s : St} {n : Nat} (h : stOk s n = true) (hn : n ≤ 20) : ∀ z ∈ stN s, 0 ≤ z ∧ z ≤ 999 := by
  obtain ⟨h1, h2, h3⟩ := stOk_iff.1 h
  have hc := fun i hi => h3 i hi
  intro z hz
  unfold stN at hz
  simp only [List.mem_cons, List.not_mem_nil, or_false] at hz
  rcases hz with rfl | rfl | rfl | rfl | rfl | rfl | rfl | rfl
  · omega
  · exact hc 0 (by decide)
  · exact hc 1 (by decide)
  · exact hc 2 (by decide)
  · exact hc 3 (by decide)
  · exact hc 4 (by decide)
  · exact hc 5 (by decide)
  · split <;> omega
/-- What rooms and lines of a kernel that is right are like. -/
theorem room_of {p : PD} {k : KD} (hp : plchk p = 0) (hk : KOk p k) {s : St} (hs : s ∈ k.rooms) : ∀ z ∈ stN s, 0 ≤ z ∧ z ≤ 999 := by
  obtain ⟨i, hi⟩ := List.mem_iff_getElem?.1 hs
  have hlt := (List.getElem?_eq_some_iff.1 hi).1
  have hc : p.code[i]? = some (p.code[i]'(by rw [← hk.rl]; exact hlt)) := List.getElem?_eq_getElem _
  exact stN_small (hk.rooms i _ s hc hi) (chk_zero (codesE_zero (plchk_zero hp).2.2.2.2.2.2.1 _ (List.mem_of_getElem? hc))).2.1
theorem line_of {p : PD} {k : KD} (hk : KOk p k) {l : LnD} (hl : l ∈ k.lines) : ∃ x ∈ p.wires, LnOk l x := by
  obtain ⟨i, hi⟩ := List.mem_iff_getElem?.1 hl
  have hlt := (List.getElem?_eq_some_iff.1 hi).1
  have hx : p.wires[i]? = some (p.wires[i]'(by rw [← hk.ll]; exact hlt)) := List.getElem?_eq_getElem _
  exact ⟨_, List.mem_of_getElem? hx, hk.lines i l _ hi hx⟩
theorem line_few {p : PD} {k : KD} (hp : plchk p = 0) (hk : KOk p k) {l : LnD} (hl : l ∈ k.lines) : (l.xs.length : Int) ≤ l.w.2.2.2 ∧ l.xs.length ≤ 6 := by
  obtain ⟨x, hx, ho⟩ := line_of hk hl
  have hw := wchk_kind ((wschk_ok (plchk_zero hp).2.2.2.1).2 x hx)
  rw [ho.w]
  rcases hw with ⟨h1, h2⟩ | ⟨h1, h2, h3⟩
  · have := ho.one h1
    omega
  · have := ho.deep h1
    omega
theorem snap_small {p : PD} {k : KD} (hp : plchk p = 0) (hk : KOk p k) (ht : k.time ≤ 90000000) (hl : ∀ l ∈ k.lines, l.ls ≤ 90000000) : SnSmall k := by
  have hw12 := (wschk_ok (plchk_zero hp).2.2.2.1).1
  refine ⟨by rw [hk.rl]; exact (plchk_zero hp).1, by rw [hk.ll]; exact hw12, ⟨hk.time, by omega⟩, fun s hs n hn => by have := room_of hp hk hs n hn; omega, fun l hl' n hn => ?_, fun l hl' => (line_few hp hk hl').2⟩
  obtain ⟨x, _, ho⟩ := line_of hk hl'
  rcases List.mem_cons.1 hn with rfl | hn
  · have := ho.ls
    have := hl l hl'
    omega
  · have := ho.xs n hn
    omega
theorem roomsBad_none : ∀ {cs : List (List O3)} {ss : List St}, (∀ (i : Nat) c s, cs[i]? = some c → ss[i]? = some s → stOk s c.length = true) → roomsBad cs ss = false
  | [], ss, _ => by cases ss <;> rfl
  | c :: cs, [], _ => rfl
  | c :: cs, s :: ss, h => by
    rw [roomsBad, h 0 c s rfl rfl, roomsBad_none (fun i c' s' hc hs => h (i + 1) c' s' (by simpa using hc) (by simpa using hs))]
    rfl
theorem roomsBad_all : ∀ {cs : List (List O3)} {ss : List St}, roomsBad cs ss = false → ∀ (i : Nat) c s, cs[i]? = some c → ss[i]? = some s → stOk s c.length = true
  | [], _, _, i, c, s, hc, _ => by simp at hc
  | _ :: _, [], _, i, c, s, _, hs => by simp at hs
  | c' :: cs, s' :: ss, h, 0, c, s, hc, hs => by
    simp at hc hs
    subst hc
    subst hs
    rw [roomsBad, Bool.or_eq_false_iff] at h
    simpa using h.1
  | c' :: cs, s' :: ss, h, i + 1, c, s, hc, hs => by
    rw [roomsBad, Bool.or_eq_false_iff] at h
    exact roomsBad_all h.2 i c s (by simpa using hc) (by simpa using hs)
theorem keep_wires {p : PD} {k : KD} (hk : KOk p k) : k.lines.map (·.w) = p.wires := by
  apply List.ext_getElem?
  intro i
  rw [List.getElem?_map]
  cases hi : k.lines[i]? with
  | none =>
    have : p.wires.length ≤ i := by
      rw [← hk.ll]
      exact List.getElem?_eq_none_iff.1 hi
    rw [List.getElem?_eq_none_iff.2 this]
    rfl
  | some l =>
    have hlt := (List.getElem?_eq_some_iff.1 hi).1
    have hx : p.wires[i]? = some (p.wires[i]'(by rw [← hk.ll]; exact hlt)) := List.getElem?_eq_getElem _
    rw [hx, Option.map_some, (hk.lines i l _ hi hx).w]
/-- What was kept is read as it was. -/
theorem snap_read {p : PD} {k : KD} (hp : plchk p = 0) (hk : KOk p k) (h : Keep k) (ht : k.time ≤ 9999999) (hl : ∀ l ∈ k.lines, l.ls ≤ 9999999) : snP p (snB k) = (k, 0) := by
  refine sn_read hk.rl (keep_wires hk) ⟨hk.time, ht⟩ (fun s hs => ⟨h.tight s hs, fun n hn => by have := room_of hp hk hs n hn; omega⟩) (fun l hl' n hn => ?_) ?_
  · obtain ⟨x, _, ho⟩ := line_of hk hl'
    rcases List.mem_cons.1 hn with rfl | hn
    · exact ⟨ho.ls, hl l hl'⟩
    · have := ho.xs n hn
      omega
  · unfold snBad
    rw [roomsBad_none hk.rooms, Bool.false_or, List.any_eq_false]
    intro l hl'
    obtain ⟨x, _, ho⟩ := line_of hk hl'
    unfold lineBad
    rw [Bool.not_eq_true, Bool.or_eq_false_iff, Bool.or_eq_false_iff, Bool.and_eq_false_iff]
    refine ⟨⟨decide_eq_false (by have := (line_few hp hk hl').1; omega), ?_⟩, ?_⟩
    · by_cases h1 : l.w.2.2.1 = 1
      · exact Or.inr (decide_eq_false (by simpa using h.samp l hl' h1))
      · exact Or.inl (decide_eq_false h1)
    · rw [List.any_eq_false]
      intro n hn
      have := ho.xs n hn
      simp
      omega
end Go.Proofs.YtajfgmlockjmhaiGreatDoor
