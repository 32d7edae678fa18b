/-
  Num7M, Num3M, Rd3M, LogT, LogK, LogRdG, LastIx, LogSt, Numb3, Numb7, LogSm: joined into one text.
-/
import Derived.Test.YtajfgmlockjmhaiGreatDoorJt7
import Derived.Test.YtajfgmlockjmhaiGreatDoorJt1
import Derived.Test.YtajfgmlockjmhaiGreatDoorJt2
import Derived.Test.YtajfgmlockjmhaiGreatDoorJt3
import Derived.Test.YtajfgmlockjmhaiGreatDoorJt4
import Derived.Lib.UnsafeStr
import Derived.Test.YtajfgmlockjmhaiGreatDoorJt5
import Derived.Deep.CutRange
import Derived.Deep.RegionWith
import Derived.BigQuiet
import Derived.RangeFuncNested
import Derived.Test.YtajfgmlockjmhaiGreatDoorJt6
namespace Go.Proofs.YtajfgmlockjmhaiGreatDoor

/-- The number that a word of at most seven bytes is. -/
def numB7 (l : List UInt8) : Option Int :=
  if l.length ≤ 7 then match Lib.atoi l with
    | some n => if 0 ≤ n ∧ Lib.itoa n = l then some n else none
    | none => none
  else none
theorem numB7_long {l : List UInt8} (h : 7 < l.length) : numB7 l = none := by unfold numB7; rw [if_neg (by omega)]
theorem numB7_bad {l : List UInt8} (h : Lib.atoi l = none) : numB7 l = none := by unfold numB7; rw [h]; split <;> rfl
theorem numB7_neg {l : List UInt8} {n : Int} (h : Lib.atoi l = some n) (h0 : n < 0) : numB7 l = none := by
  unfold numB7; rw [h]; split
  · simp only; rw [if_neg (by omega)]
  · rfl
theorem numB7_other {l : List UInt8} {n : Int} (h : Lib.atoi l = some n) (h0 : Lib.itoa n ≠ l) : numB7 l = none := by
  unfold numB7; rw [h]; split
  · simp only; rw [if_neg (fun hh => h0 hh.2)]
  · rfl
theorem numB7_yes {l : List UInt8} {n : Int} (hl : l.length ≤ 7) (h : Lib.atoi l = some n) (h0 : 0 ≤ n) (h1 : Lib.itoa n = l) : numB7 l = some n := by
  unfold numB7; rw [if_pos hl, h]; simp only; rw [if_pos ⟨h0, h1⟩]
theorem numB7_some {l : List UInt8} {n : Int} (h : numB7 l = some n) : l.length ≤ 7 ∧ 0 ≤ n ∧ Lib.itoa n = l := by
  by_cases h1 : l.length ≤ 7
  · cases h2 : Lib.atoi l with
    | none => rw [numB7_bad h2] at h; cases h
    | some m =>
      by_cases h3 : 0 ≤ m
      · by_cases h4 : Lib.itoa m = l
        · rw [numB7_yes h1 h2 h3 h4] at h
          obtain rfl := Option.some.inj h
          exact ⟨h1, h3, h4⟩
        · rw [numB7_other h2 h4] at h; cases h
      · rw [numB7_neg h2 (by omega)] at h; cases h
  · rw [numB7_long (by omega)] at h; cases h
theorem numB7_form {l : List UInt8} {n : Int} (h : numB7 l = some n) : l.length ≤ 7 ∧ l = Lib.decDigits n.toNat := by
  obtain ⟨h1, h2, h3⟩ := numB7_some h
  rw [itoa_pos h2] at h3
  exact ⟨h1, h3.symm⟩
theorem num7_good {l : List UInt8} (hd : ∀ d ∈ l, isD d) (hne : l ≠ []) (h4 : l.length ≤ 7) (hh : l.head? = some 48 → l.length = 1) : numB7 l = some (valD l) := by
  obtain ⟨h1, h2, _⟩ := val_good l.length l rfl hd hne hh
  have ha := atoi_dec (valD l).toNat
  rw [h2, show (((valD l).toNat : Nat) : Int) = valD l by omega] at ha
  exact numB7_yes h4 ha h1 (by rw [itoa_pos h1]; exact h2)
theorem valD_pow : ∀ (k : Nat) (l : List UInt8), l.length = k → (∀ d ∈ l, isD d) → 0 ≤ valD l ∧ valD l < (10 : Int) ^ k
  | 0, l, h, _ => by
    have : l = [] := List.eq_nil_of_length_eq_zero h
    subst this
    rw [valD_nil]
    decide
  | k + 1, l, h, hd => by
    rcases List.eq_nil_or_concat l with e | ⟨l', d, e⟩
    · rw [e] at h; simp at h
    · rw [List.concat_eq_append] at e
      subst e
      rw [List.length_append, List.length_singleton] at h
      obtain ⟨h1, h2⟩ := valD_pow k l' (by omega) (fun x hx => hd x (List.mem_append_left _ hx))
      have h3 := hd d (List.mem_append_right _ (by simp))
      unfold isD at h3
      rw [valD_snoc, Int.pow_succ]
      omega
theorem valD_le7 (l : List UInt8) (hd : ∀ d ∈ l, isD d) (h : l.length ≤ 7) : 0 ≤ valD l ∧ valD l ≤ 9999999 := by
  obtain ⟨h1, h2⟩ := valD_pow l.length l rfl hd
  refine ⟨h1, ?_⟩
  have hc : l.length = 0 ∨ l.length = 1 ∨ l.length = 2 ∨ l.length = 3 ∨ l.length = 4 ∨ l.length = 5 ∨ l.length = 6 ∨ l.length = 7 := by omega
  rcases hc with e | e | e | e | e | e | e | e <;> (rw [e] at h2; simp at h2; omega)
theorem digK : ∀ (k u : Nat), u < 10 ^ (k + 1) → Lib.nDigits u ≤ k + 1
  | 0, u, h => by rw [Lib.nDigits_small (by simpa using h)]; omega
  | k + 1, u, h => by
    by_cases h1 : u < 10
    · rw [Lib.nDigits_small h1]; omega
    · rw [Lib.nDigits_big h1]
      have := digK k (u / 10) (by rw [Nat.pow_succ] at h; omega)
      omega
theorem dig7 {u : Nat} (h : u ≤ 9999999) : Lib.nDigits u ≤ 7 := digK 6 u (Nat.lt_of_le_of_lt h (by decide))
/-- A number of at most seven digits is read as it was. -/
theorem num7_itoa {z : Int} (h0 : 0 ≤ z) (h1 : z ≤ 9999999) : numB7 (Lib.itoa z) = some z := by
  obtain ⟨u, rfl⟩ : ∃ u : Nat, z = u := ⟨z.toNat, by omega⟩
  have hi : Lib.itoa (u : Int) = Lib.decDigits u := by rw [itoa_pos (by omega)]; simp
  rw [hi]
  refine numB7_yes ?_ (atoi_dec u) (by omega) hi
  have : u ≤ 9999999 := by omega
  rw [Lib.decDigits_length]
  exact dig7 this
end Go.Proofs.YtajfgmlockjmhaiGreatDoor
namespace Go.Proofs.YtajfgmlockjmhaiGreatDoor

/-- The number that a word of at most three bytes is. -/
def numB3 (l : List UInt8) : Option Int :=
  if l.length ≤ 3 then match Lib.atoi l with
    | some n => if 0 ≤ n ∧ Lib.itoa n = l then some n else none
    | none => none
  else none
theorem numB3_long {l : List UInt8} (h : 3 < l.length) : numB3 l = none := by unfold numB3; rw [if_neg (by omega)]
theorem numB3_bad {l : List UInt8} (h : Lib.atoi l = none) : numB3 l = none := by unfold numB3; rw [h]; split <;> rfl
theorem numB3_neg {l : List UInt8} {n : Int} (h : Lib.atoi l = some n) (h0 : n < 0) : numB3 l = none := by
  unfold numB3; rw [h]; split
  · simp only; rw [if_neg (by omega)]
  · rfl
theorem numB3_other {l : List UInt8} {n : Int} (h : Lib.atoi l = some n) (h0 : Lib.itoa n ≠ l) : numB3 l = none := by
  unfold numB3; rw [h]; split
  · simp only; rw [if_neg (fun hh => h0 hh.2)]
  · rfl
theorem numB3_yes {l : List UInt8} {n : Int} (hl : l.length ≤ 3) (h : Lib.atoi l = some n) (h0 : 0 ≤ n) (h1 : Lib.itoa n = l) : numB3 l = some n := by
  unfold numB3; rw [if_pos hl, h]; simp only; rw [if_pos ⟨h0, h1⟩]
theorem numB3_some {l : List UInt8} {n : Int} (h : numB3 l = some n) : l.length ≤ 3 ∧ 0 ≤ n ∧ Lib.itoa n = l := by
  by_cases h1 : l.length ≤ 3
  · cases h2 : Lib.atoi l with
    | none => rw [numB3_bad h2] at h; cases h
    | some m =>
      by_cases h3 : 0 ≤ m
      · by_cases h4 : Lib.itoa m = l
        · rw [numB3_yes h1 h2 h3 h4] at h
          obtain rfl := Option.some.inj h
          exact ⟨h1, h3, h4⟩
        · rw [numB3_other h2 h4] at h; cases h
      · rw [numB3_neg h2 (by omega)] at h; cases h
  · rw [numB3_long (by omega)] at h; cases h
theorem numB3_form {l : List UInt8} {n : Int} (h : numB3 l = some n) : l.length ≤ 3 ∧ l = Lib.decDigits n.toNat := by
  obtain ⟨h1, h2, h3⟩ := numB3_some h
  rw [itoa_pos h2] at h3
  exact ⟨h1, h3.symm⟩
theorem num3_good {l : List UInt8} (hd : ∀ d ∈ l, isD d) (hne : l ≠ []) (h4 : l.length ≤ 3) (hh : l.head? = some 48 → l.length = 1) : numB3 l = some (valD l) := by
  obtain ⟨h1, h2, _⟩ := val_good l.length l rfl hd hne hh
  have ha := atoi_dec (valD l).toNat
  rw [h2, show (((valD l).toNat : Nat) : Int) = valD l by omega] at ha
  exact numB3_yes h4 ha h1 (by rw [itoa_pos h1]; exact h2)
theorem valD_le3 (l : List UInt8) (hd : ∀ d ∈ l, isD d) (h : l.length ≤ 3) : 0 ≤ valD l ∧ valD l ≤ 999 := by
  obtain ⟨h1, h2⟩ := valD_pow l.length l rfl hd
  refine ⟨h1, ?_⟩
  have hc : l.length = 0 ∨ l.length = 1 ∨ l.length = 2 ∨ l.length = 3 ∨ l.length = 4 ∨ l.length = 5 ∨ l.length = 6 ∨ l.length = 7 := by omega
  rcases hc with e | e | e | e | e | e | e | e <;> (rw [e] at h2; simp at h2; omega)
theorem dig3 {u : Nat} (h : u ≤ 999) : Lib.nDigits u ≤ 3 := digK 2 u (Nat.lt_of_le_of_lt h (by decide))
/-- A number of at most three digits is read as it was. -/
theorem num3_itoa {z : Int} (h0 : 0 ≤ z) (h1 : z ≤ 999) : numB3 (Lib.itoa z) = some z := by
  obtain ⟨u, rfl⟩ : ∃ u : Nat, z = u := ⟨z.toNat, by omega⟩
  have hi : Lib.itoa (u : Int) = Lib.decDigits u := by rw [itoa_pos (by omega)]; simp
  rw [hi]
  refine numB3_yes ?_ (atoi_dec u) (by omega) hi
  have : u ≤ 999 := by omega
  rw [Lib.decDigits_length]
  exact dig3 this
end Go.Proofs.YtajfgmlockjmhaiGreatDoor
namespace Go.Proofs.YtajfgmlockjmhaiGreatDoor

/-- Numbers of at most three digits, all of them. -/
def nums3 : List (List UInt8) → Option (List Int)
  | [] => some []
  | u :: ps => match numB3 u, nums3 ps with
    | some n, some l => some (n :: l)
    | _, _ => none
theorem nums3_back : ∀ {ps : List (List UInt8)} {ns : List Int}, nums3 ps = some ns → ps.flatMap (32 :: ·) = tail ns ∧ ns.length = ps.length ∧ ∀ n ∈ ns, 0 ≤ n
  | [], ns, h => by
    obtain rfl := Option.some.inj h
    exact ⟨rfl, rfl, fun n hn => (by cases hn)⟩
  | u :: ps, ns, h => by
    unfold nums3 at h
    cases h1 : numB3 u with
    | none => rw [h1] at h; cases h
    | some n =>
      cases h2 : nums3 ps with
      | none => rw [h1, h2] at h; cases h
      | some l =>
        rw [h1, h2] at h
        obtain rfl := Option.some.inj h
        obtain ⟨a1, a2, a3⟩ := nums3_back h2
        obtain ⟨_, b1, b2⟩ := numB3_some h1
        refine ⟨?_, by simp [a2], fun m hm => ?_⟩
        · rw [List.flatMap_cons, a1]
          simp [tail, b2]
        · rcases List.mem_cons.1 hm with rfl | hm
          · exact b1
          · exact a3 m hm
theorem nums3_itoa : ∀ (zs : List Int), (∀ z ∈ zs, 0 ≤ z ∧ z ≤ 999) → nums3 (zs.map Lib.itoa) = some zs
  | [], _ => rfl
  | z :: zs, h => by
    have h0 := h z (List.mem_cons_self ..)
    rw [List.map_cons, nums3, num3_itoa h0.1 h0.2, nums3_itoa zs (fun y hy => h y (List.mem_cons_of_mem _ hy))]
/-- A line: its word, and its numbers. -/
def wnT (u : List UInt8) : Option (List UInt8 × List Int) := match cutB 32 u with
  | [] => none
  | w :: ps => (nums3 ps).map fun ns => (w, ns)
theorem wt_back {u w : List UInt8} {ns : List Int} (h : wnT u = some (w, ns)) : w ++ tail ns = u ∧ ∀ n ∈ ns, 0 ≤ n := by
  unfold wnT at h
  split at h
  · cases h
  · rename_i w' ps hc
    obtain ⟨ns', hn, e⟩ := Option.map_eq_some_iff.1 h
    injection e with e1 e2
    subst e1
    subst e2
    obtain ⟨a1, _, a3⟩ := nums3_back hn
    have hj := cut_join 32 u [] _ _ hc
    rw [List.nil_append, a1] at hj
    exact ⟨hj.symm, a3⟩
theorem wt_line {w : List UInt8} (hw : (32 : UInt8) ∉ w) (zs : List Int) (h : ∀ z ∈ zs, 0 ≤ z ∧ z ≤ 999) : wnT (w ++ tail zs) = some (w, zs) := by
  unfold wnT
  rw [cut_body hw zs (fun z hz => (h z hz).1)]
  simp only
  rw [nums3_itoa zs h]
  rfl
theorem numB3_le {l : List UInt8} {n : Int} (h : numB3 l = some n) : n ≤ 999 := by
  obtain ⟨h1, h2⟩ := numB3_form h
  have h0 := (numB3_some h).2.1
  have hd : ∀ d ∈ l, isD d := fun d hd => by
    rw [h2] at hd
    exact dec_mem _ d hd
  have hne : l ≠ [] := by rw [h2]; exact dec_ne _
  have hg := num3_good hd hne h1 (fun hh => by
    have hz := dec_head n.toNat (by rw [← h2]; exact hh)
    rw [h2, hz, Lib.decDigits_one (by omega)]
    rfl)
  rw [h] at hg
  obtain rfl := Option.some.inj hg
  exact (valD_le3 l hd h1).2
theorem nums3_le : ∀ {ps : List (List UInt8)} {ns : List Int}, nums3 ps = some ns → ∀ n ∈ ns, n ≤ 999
  | [], ns, h => by
    obtain rfl := Option.some.inj h
    exact fun n hn => (by cases hn)
  | u :: ps, ns, h => by
    unfold nums3 at h
    cases h1 : numB3 u with
    | none => rw [h1] at h; cases h
    | some n =>
      cases h2 : nums3 ps with
      | none => rw [h1, h2] at h; cases h
      | some l =>
        rw [h1, h2] at h
        obtain rfl := Option.some.inj h
        intro m hm
        rcases List.mem_cons.1 hm with rfl | hm
        · exact numB3_le h1
        · exact nums3_le h2 m hm
theorem wt_le {u w : List UInt8} {ns : List Int} (h : wnT u = some (w, ns)) : ∀ n ∈ ns, n ≤ 999 := by
  unfold wnT at h
  split at h
  · cases h
  · obtain ⟨ns', hn, e⟩ := Option.map_eq_some_iff.1 h
    injection e with e1 e2
    subst e2
    exact nums3_le hn
theorem n3_snoc (ps : List (List UInt8)) (ns : List Int) (p : List UInt8) (n : Int) (h : nums3 ps = some ns) (hn : numB3 p = some n) : nums3 (ps ++ [p]) = some (ns ++ [n]) := by
  induction ps generalizing ns with
  | nil => obtain rfl := Option.some.inj h; simp [nums3, hn]
  | cons q qs ih =>
    unfold nums3 at h
    cases hq : numB3 q with
    | none => rw [hq] at h; cases h
    | some m =>
      cases hqs : nums3 qs with
      | none => rw [hq, hqs] at h; cases h
      | some ms =>
        rw [hq, hqs] at h
        obtain rfl := Option.some.inj h
        rw [List.cons_append, nums3, hq, ih ms hqs]
        rfl
theorem n3_bad {ps qs : List (List UInt8)} {p : List UInt8} (hn : numB3 p = none) : nums3 (ps ++ p :: qs) = none := by
  induction ps with
  | nil => rw [List.nil_append, nums3, hn]
  | cons q rs ih =>
    rw [List.cons_append, nums3, ih]
    cases numB3 q <;> rfl
theorem n3_len {ps : List (List UInt8)} {ns : List Int} (h : nums3 ps = some ns) : ns.length = ps.length := (nums3_back h).2.1
theorem wnT_no {u : List UInt8} (h : (32 : UInt8) ∉ u) : wnT u = some (u, []) := by
  unfold wnT cutB
  rw [cutGo_none 32 u [] h]
  rfl
theorem wnT_at {a v : List UInt8} (h : (32 : UInt8) ∉ a) : wnT (a ++ 32 :: v) = (nums3 (cutB 32 v)).map fun ns => (a, ns) := by
  unfold wnT
  rw [show cutB 32 (a ++ 32 :: v) = a :: cutB 32 v from cutGo_at 32 a [] v h]
/-- A line, with its end, as a word, and numbers. -/
def read3B (l : List UInt8) : Option (List UInt8 × List Int) := if l.getLast? = some 10 then wnT l.dropLast else none
theorem read3B_snoc (u : List UInt8) : read3B (u ++ [10]) = wnT u := by simp [read3B]
theorem read3B_none {l : List UInt8} (h : ∀ u, l ≠ u ++ [10]) : read3B l = none := by
  unfold read3B
  rw [if_neg]
  intro e
  obtain ⟨u, hu⟩ := List.getLast?_eq_some_iff.1 e
  exact h u hu
end Go.Proofs.YtajfgmlockjmhaiGreatDoor
namespace Go.Proofs.YtajfgmlockjmhaiGreatDoor

def goW : List UInt8 := [103, 111]
def pokeW : List UInt8 := [112, 111, 107, 101]
def lsW : LStp → List UInt8
  | .go _ => goW
  | .poke _ _ _ => pokeW
def lsN : LStp → List Int
  | .go n => [(n : Int)]
  | .poke r c n => [r, c, n]
/-- A record. -/
def recB (s : LStp) : List UInt8 := lineB (lsW s) (lsN s)
/-- A step that a log lets in. -/
def LsOk (s : LStp) : Prop := ∀ z ∈ lsN s, 0 ≤ z ∧ z ≤ 999
theorem lsW_no (s : LStp) : (10 : UInt8) ∉ lsW s ∧ (32 : UInt8) ∉ lsW s := by
  cases s with
  | go n => exact ⟨by show (10 : UInt8) ∉ goW; decide, by show (32 : UInt8) ∉ goW; decide⟩
  | poke r c n => exact ⟨by show (10 : UInt8) ∉ pokeW; decide, by show (32 : UInt8) ∉ pokeW; decide⟩
theorem recB_form {s : LStp} (h : LsOk s) : recB s = (lsW s ++ tail (lsN s)) ++ [10] ∧ (10 : UInt8) ∉ lsW s ++ tail (lsN s) := ⟨rfl, not_word (lsW_no s).1 (fun z hz => (h z hz).1)⟩
theorem recB_len {s : LStp} (h : LsOk s) : 2 ≤ (recB s).length ∧ (recB s).length ≤ 71 := by
  have h1 : (tail (lsN s)).length ≤ 22 * (lsN s).length := tail_le (lsN s) (fun z hz => by have := h z hz; omega)
  rw [(recB_form h).1, List.length_append, List.length_append, List.length_singleton]
  cases s with
  | go n => simp only [lsW, goW, lsN, List.length_cons, List.length_nil] at *; omega
  | poke r c n => simp only [lsW, pokeW, lsN, List.length_cons, List.length_nil] at *; omega
theorem recB_read {s : LStp} (h : LsOk s) : read3B (recB s) = some (lsW s, lsN s) := by
  rw [(recB_form h).1, read3B_snoc]
  exact wt_line (lsW_no s).2 (lsN s) h
/-- All records. -/
def flatB (l : List (LStp × Nat)) : List UInt8 := l.flatMap fun r => recB r.1
/-- Records are right: each is let in, and its size is its text's. -/
def RcOk (l : List (LStp × Nat)) : Prop := ∀ r ∈ l, LsOk r.1 ∧ r.2 = (recB r.1).length
theorem flat_len : ∀ {l : List (LStp × Nat)}, RcOk l → (flatB l).length = sizeR l
  | [], _ => rfl
  | r :: l, h => by
    have h1 := flat_len (l := l) (fun x hx => h x (List.mem_cons_of_mem _ hx))
    have h2 := (h r (List.mem_cons_self ..)).2
    show (recB r.1 ++ flatB l).length = r.2 + sizeR l
    rw [List.length_append, h1, h2]
theorem flat_append (l m : List (LStp × Nat)) : flatB (l ++ m) = flatB l ++ flatB m := by simp [flatB]
theorem size_small {l : List (LStp × Nat)} (h : RcOk l) : sizeR l ≤ 71 * l.length := by
  induction l with
  | nil => exact Nat.zero_le _
  | cons r l ih =>
    have h1 := ih (fun x hx => h x (List.mem_cons_of_mem _ hx))
    obtain ⟨h2, h3⟩ := h r (List.mem_cons_self ..)
    have h4 := (recB_len h2).2
    simp only [sizeR, List.length_cons]
    omega
/-- A text and what stands behind its last byte 10. -/
def LastNl (l : List UInt8) (n : Nat) : Prop := (n = 0 ∨ (1 ≤ n ∧ l[n - 1]? = some 10)) ∧ ∀ j, n ≤ j → l[j]? ≠ some 10
theorem last_none {l : List UInt8} (h : (10 : UInt8) ∉ l) : LastNl l 0 := ⟨Or.inl rfl, fun _ _ e => h (List.mem_of_getElem? e)⟩
theorem last_more {u l : List UInt8} {n : Nat} (h : LastNl l n) : LastNl ((u ++ [10]) ++ l) (u.length + 1 + n) := by
  obtain ⟨h1, h2⟩ := h
  have hl : (u ++ [10]).length = u.length + 1 := by simp
  refine ⟨Or.inr ⟨by omega, ?_⟩, fun j hj => ?_⟩
  · rcases h1 with rfl | ⟨h1, h3⟩
    · rw [List.getElem?_append_left (by omega), List.getElem?_append_right (by omega)]
      simp
    · rw [List.getElem?_append_right (by omega), hl, show u.length + 1 + n - 1 - (u.length + 1) = n - 1 by omega]
      exact h3
  · rw [List.getElem?_append_right (by omega), hl]
    exact h2 _ (by omega)
theorem whole_last : ∀ (l : List (LStp × Nat)) (m : Nat) (pt : List UInt8), RcOk l → (10 : UInt8) ∉ pt → LastNl ((flatB l ++ pt).take m) (sizeR (wholeR m l))
  | [], m, pt, _, hp => by
    show LastNl (([] ++ pt).take m) 0
    refine last_none fun hm => hp ?_
    rw [List.nil_append] at hm
    exact List.mem_of_mem_take hm
  | r :: l, m, pt, h, hp => by
    obtain ⟨h1, h2⟩ := h r (List.mem_cons_self ..)
    obtain ⟨h3, h4⟩ := recB_form h1
    have hs : (recB r.1).length = (lsW r.1 ++ tail (lsN r.1)).length + 1 := by rw [h3, List.length_append, List.length_singleton]
    have hf : flatB (r :: l) ++ pt = recB r.1 ++ (flatB l ++ pt) := by
      show (recB r.1 ++ flatB l) ++ pt = _
      rw [List.append_assoc]
    rw [hf]
    unfold wholeR
    by_cases hm : r.2 ≤ m
    · rw [if_pos hm]
      show LastNl _ (r.2 + sizeR (wholeR (m - r.2) l))
      have ht : (recB r.1 ++ (flatB l ++ pt)).take m = recB r.1 ++ (flatB l ++ pt).take (m - r.2) := by
        rw [List.take_append, h2, List.take_of_length_le (by omega)]
      rw [ht, h2, hs, h3]
      have := last_more (u := lsW r.1 ++ tail (lsN r.1)) (whole_last l (m - r.2) pt (fun x hx => h x (List.mem_cons_of_mem _ hx)) hp)
      rw [h2, hs] at this
      exact this
    · rw [if_neg hm]
      refine last_none fun hx => h4 ?_
      rw [List.take_append_of_le_length (by omega), h3, List.take_append_of_le_length (by omega)] at hx
      exact List.mem_of_mem_take hx
theorem flat_whole {l : List (LStp × Nat)} (h : RcOk l) (m : Nat) (pt : List UInt8) : (flatB l ++ pt).take (sizeR (wholeR m l)) = flatB (wholeR m l) ∧ RcOk (wholeR m l) := by
  obtain ⟨n, hn⟩ := wholeR_pre m l
  rw [hn]
  have h1 : RcOk (l.take n) := fun r hr => h r (List.mem_of_mem_take hr)
  refine ⟨?_, h1⟩
  have h2 : flatB l = flatB (l.take n) ++ flatB (l.drop n) := by rw [← flat_append, List.take_append_drop]
  rw [h2, List.append_assoc, ← flat_len h1, List.take_left]
theorem flat_lines : ∀ {l : List (LStp × Nat)}, RcOk l → linesB (flatB l) = l.map fun r => recB r.1
  | [], _ => rfl
  | r :: l, h => by
    obtain ⟨h1, _⟩ := h r (List.mem_cons_self ..)
    obtain ⟨h3, h4⟩ := recB_form h1
    show linesB (recB r.1 ++ flatB l) = recB r.1 :: l.map fun r => recB r.1
    rw [h3, List.append_assoc, List.singleton_append, lines_at _ h4, flat_lines (fun x hx => h x (List.mem_cons_of_mem _ hx))]
/-- What the text is that a log has. -/
structure LTx (d : LgD) (bs : List UInt8) : Prop where
  ok : RcOk d.recs
  tx : ∃ pt, bs = flatB d.recs ++ pt ∧ pt.length = d.part ∧ (10 : UInt8) ∉ pt
theorem LTx.len {d : LgD} {bs : List UInt8} (h : LTx d bs) : bs.length = d.bytes := by
  obtain ⟨pt, h1, h2, _⟩ := h.tx
  rw [h1, List.length_append, flat_len h.ok, h2]
  rfl
theorem LTx.small {p : PD} {d : LgD} {bs : List UInt8} (h : LTx d bs) (hk : LOk p d) : bs.length ≤ 100000 := by
  have h1 := size_small h.ok
  have h2 := hk.len
  have h3 := hk.few
  rw [h.len]
  unfold LgD.bytes
  omega
theorem LTx.same {d d' : LgD} {bs : List UInt8} (h : LTx d bs) (h1 : d'.recs = d.recs) (h2 : d'.part = d.part) : LTx d' bs := ⟨by rw [h1]; exact h.ok, by rw [h1, h2]; exact h.tx⟩
theorem LTx.new : LTx newL [] := ⟨fun r hr => (by cases hr), [], rfl, rfl, by simp⟩
/-- A record more, or half of it. -/
theorem LTx.put {d : LgD} {bs : List UInt8} {s : LStp} (h : LTx d bs) (hp : d.part = 0) (hs : LsOk s) : LTx (putR d s (recB s).length) (if d.last = true then bs ++ (recB s).take ((recB s).length / 2) else bs ++ recB s) := by
  obtain ⟨pt, h1, h2, h3⟩ := h.tx
  rw [hp] at h2
  obtain rfl := List.eq_nil_of_length_eq_zero h2
  rw [List.append_nil] at h1
  obtain ⟨f1, f2⟩ := recB_form hs
  have hl := recB_len hs
  unfold putR
  split
  · refine ⟨h.ok, _, by rw [h1], ?_, fun hm => f2 ?_⟩
    · show _ = d.part + (recB s).length / 2
      rw [List.length_take, hp]
      omega
    · have hle : (lsW s ++ tail (lsN s)).length + 1 = (recB s).length := by rw [f1]; simp only [List.length_append, List.length_singleton]
      rw [f1, List.take_append_of_le_length (by rw [← f1]; omega)] at hm
      exact List.mem_of_mem_take hm
  · refine ⟨fun r hr => ?_, [], ?_, by show (0 : Nat) = d.part; omega, by simp⟩
    · rcases List.mem_append.1 hr with hr | hr
      · exact h.ok r hr
      · rw [List.mem_singleton] at hr
        subst hr
        exact ⟨hs, rfl⟩
    · show _ = flatB (d.recs ++ [(s, (recB s).length)]) ++ []
      rw [flat_append, h1, List.append_nil]
      simp [flatB]
/-- Behind a crash. -/
theorem LTx.crash {d : LgD} {bs : List UInt8} (h : LTx d bs) (keep : Int) : LastNl (bs.take (d.high keep)) (crashL d keep).safe ∧ LTx (crashL d keep) (bs.take (crashL d keep).safe) ∧ (crashL d keep).safe ≤ d.high keep ∧ bs.take (crashL d keep).safe = flatB (crashL d keep).recs := by
  obtain ⟨pt, h1, _, h3⟩ := h.tx
  obtain ⟨q1, q2⟩ := flat_whole h.ok (d.high keep) pt
  have e : bs.take (crashL d keep).safe = flatB (crashL d keep).recs := by
    rw [h1]
    exact q1
  refine ⟨by rw [h1]; exact whole_last _ _ _ h.ok h3, ⟨q2, [], by rw [e, List.append_nil], rfl, by simp⟩, wholeR_le _ _, e⟩
/-- What a line does to a kernel. -/
def doW (p : PD) (k : KD) (w : List UInt8) (ns : List Int) : KD := if w = goW ∧ ns.length = 1 then ticksK p (ns.getD 0 0).toNat k else if w = pokeW ∧ ns.length = 3 then pokeK k (ns.getD 0 0) (ns.getD 1 0) (ns.getD 2 0) else k
def doLn (p : PD) (k : KD) (l : List UInt8) : KD := match read3B l with
  | some (w, ns) => doW p k w ns
  | none => k
theorem doW_step (p : PD) (k : KD) (s : LStp) : doW p k (lsW s) (lsN s) = doK p k s := by
  cases s with
  | go n =>
    unfold doW
    rw [if_pos ⟨rfl, rfl⟩]
    show ticksK p (Int.toNat (n : Int)) k = ticksK p n k
    rw [Int.toNat_natCast]
  | poke r c n =>
    unfold doW
    rw [if_neg (fun h => absurd h.1 (by show ¬ pokeW = goW; decide)), if_pos ⟨rfl, rfl⟩]
    rfl
theorem doLn_rec (p : PD) (k : KD) {s : LStp} (h : LsOk s) : doLn p k (recB s) = doK p k s := by
  unfold doLn
  rw [recB_read h]
  exact doW_step p k s
theorem doW_ok {p : PD} (hp : plchk p = 0) {k : KD} (h : KOk p k) (w : List UInt8) (ns : List Int) : KOk p (doW p k w ns) := by
  unfold doW
  split
  · exact ticksK_ok hp _ h
  · split
    · exact poke_ok h _ _ _
    · exact h
theorem doW_time (p : PD) (k : KD) (w : List UInt8) {ns : List Int} (h : ∀ n ∈ ns, 0 ≤ n ∧ n ≤ 999) : (doW p k w ns).time ≤ k.time + 999 := by
  unfold doW
  split
  · rename_i h1
    rw [ticksK_time]
    match ns, h1.2 with
    | [n], _ =>
      have := h n (by simp)
      show k.time + ((n.toNat : Nat) : Int) ≤ _
      omega
  · split
    · rw [pokeK_tm]
      omega
    · omega
theorem doLn_ok {p : PD} (hp : plchk p = 0) {k : KD} (h : KOk p k) (l : List UInt8) : KOk p (doLn p k l) := by
  unfold doLn
  split
  · exact doW_ok hp h _ _
  · exact h
theorem read3_in {l w : List UInt8} {ns : List Int} (h : read3B l = some (w, ns)) : ∀ n ∈ ns, 0 ≤ n ∧ n ≤ 999 := by
  unfold read3B at h
  split at h
  · exact fun n hn => ⟨(wt_back h).2 n hn, wt_le h n hn⟩
  · cases h
theorem doLn_time (p : PD) (k : KD) (l : List UInt8) : (doLn p k l).time ≤ k.time + 999 := by
  unfold doLn
  split
  · rename_i w ns h
    exact doW_time p k w (read3_in h)
  · omega
theorem fold_lines {p : PD} : ∀ {l : List (LStp × Nat)} {k : KD}, RcOk l → (l.map fun r => recB r.1).foldl (doLn p) k = (l.map (·.1)).foldl (doK p) k
  | [], _, _ => rfl
  | r :: l, k, h => by
    show (l.map fun r => recB r.1).foldl (doLn p) (doLn p k (recB r.1)) = (l.map (·.1)).foldl (doK p) (doK p k r.1)
    rw [doLn_rec p k (h r (List.mem_cons_self ..)).1, fold_lines (fun x hx => h x (List.mem_cons_of_mem _ hx))]
end Go.Proofs.YtajfgmlockjmhaiGreatDoor
namespace Go.Proofs.YtajfgmlockjmhaiGreatDoor
open Go.RowKit

/-- Its block. -/
def LBk (W : World) (b : Nat) (cv : Value) (t : Int) (sv wv kv rv : Value) (sf fl : Int) (st : Bool) : Prop := W.heap[b]? = some (.cells #[cv, .int .i64 t, sv, wv, kv, rv, .int .i64 sf, .int .i64 fl, .bool st] 113 (0, 0))
section
variable {W W' : World} {b : Nat} {cv sv wv kv rv : Value} {t sf fl : Int} {st : Bool}
theorem LBk.cs (h : LBk W b cv t sv wv kv rv sf fl st) : W.cell? ⟨b, 0, none⟩ = some cv ∧ W.cell? ⟨b, 1, none⟩ = some (.int .i64 t) ∧ W.cell? ⟨b, 2, none⟩ = some sv ∧ W.cell? ⟨b, 3, none⟩ = some wv ∧ W.cell? ⟨b, 4, none⟩ = some kv ∧ W.cell? ⟨b, 5, none⟩ = some rv ∧ W.cell? ⟨b, 6, none⟩ = some (.int .i64 sf) ∧ W.cell? ⟨b, 7, none⟩ = some (.int .i64 fl) ∧ W.cell? ⟨b, 8, none⟩ = some (.bool st) := by
  have e : W.heap[b]? = _ := h
  simp [World.cell?, e]
theorem LBk.free (h : LBk W b cv t sv wv kv rv sf fl st) (o : Nat) : W.frozen? ⟨b, o, none⟩ = false := by
  have e : W.heap[b]? = _ := h
  simp [World.frozen?, e]
theorem LBk.lt (h : LBk W b cv t sv wv kv rv sf fl st) : b < W.heap.size := by
  have e : W.heap[b]? = _ := h
  exact (Array.getElem?_eq_some_iff.1 e).1
theorem LBk.kern (h : LBk W b cv t sv wv kv rv sf fl st) (v : Value) : LBk (W.setCell ⟨b, 4, none⟩ v) b cv t sv wv v rv sf fl st := by
  have e : W.heap[b]? = _ := h
  unfold LBk
  simp [World.setCell, Array.getElem?_modify, e]
theorem LBk.recs (h : LBk W b cv t sv wv kv rv sf fl st) (v : Value) : LBk (W.setCell ⟨b, 5, none⟩ v) b cv t sv wv kv v sf fl st := by
  have e : W.heap[b]? = _ := h
  unfold LBk
  simp [World.setCell, Array.getElem?_modify, e]
theorem LBk.safe (h : LBk W b cv t sv wv kv rv sf fl st) (v : Int) : LBk (W.setCell ⟨b, 6, none⟩ (.int .i64 v)) b cv t sv wv kv rv v fl st := by
  have e : W.heap[b]? = _ := h
  unfold LBk
  simp [World.setCell, Array.getElem?_modify, e]
theorem LBk.fail (h : LBk W b cv t sv wv kv rv sf fl st) (v : Int) : LBk (W.setCell ⟨b, 7, none⟩ (.int .i64 v)) b cv t sv wv kv rv sf v st := by
  have e : W.heap[b]? = _ := h
  unfold LBk
  simp [World.setCell, Array.getElem?_modify, e]
theorem LBk.stop (h : LBk W b cv t sv wv kv rv sf fl st) (v : Bool) : LBk (W.setCell ⟨b, 8, none⟩ (.bool v)) b cv t sv wv kv rv sf fl v := by
  have e : W.heap[b]? = _ := h
  unfold LBk
  simp [World.setCell, Array.getElem?_modify, e]
theorem LBk.to (h : LBk W b cv t sv wv kv rv sf fl st) (e : W'.heap[b]? = W.heap[b]?) : LBk W' b cv t sv wv kv rv sf fl st := e.trans h
end
/-- Where it lies: the kernel, the plan of its own, the bytes. -/
structure LW where
  kb : Nat
  FK : List Nat
  vc : Value
  vs : Value
  vw : Value
  cv : Value
  sv : Value
  wv : Value
  us : List Value
  rv : Value
  bs : List UInt8
def LW.F1 (x : LW) : List Nat := plF x.cv x.sv x.wv x.us
/-- All its blocks. -/
def LW.F (x : LW) (lb : Nat) : List Nat := lb :: (x.F1 ++ (x.rv.ownBlock.toList ++ x.FK))
structure GL {G : World → Prop} (D : KerC G) (w0 w : World) (p : PD) (d : LgD) (k : KD) (lb : Nat) (x : LW) : Prop where
  since : Below w0.heap.size w0 w
  blk : LBk w lb x.cv p.ticks x.sv x.wv (.pointer (some ⟨x.kb, 0, none⟩)) x.rv (d.safe : Nat) d.fail d.stop
  k : D.K w0 w p x.vc x.vs x.vw k x.kb x.FK
  pl : PlO w w0.heap.size x.cv x.sv x.wv p x.us
  row : w.ownsRow w0.heap.size 5 1 x.rv x.bs.length (Lib.byteCells x.bs)
  tx : LTx d x.bs
  ge : w0.heap.size ≤ lb
  a1 : lb ∉ x.F1
  a2 : lb ∉ x.FK
  a3 : ∀ g, x.rv.ownBlock = some g → g ≠ lb ∧ g ∉ x.F1 ∧ g ∉ x.FK
  a4 : ∀ g ∈ x.F1, g ∉ x.FK
section
variable {G : World → Prop} {D : KerC G} {w0 w w' : World} {p : PD} {d d' : LgD} {k k' : KD} {lb : Nat} {x : LW}
theorem LW.mem0 (x : LW) (lb : Nat) : lb ∈ x.F lb := by simp [LW.F]
theorem LW.mem1 {g : Nat} (h : g ∈ x.F1) : g ∈ x.F lb := by simp [LW.F, h]
theorem LW.mem2 {g : Nat} (h : g ∈ x.FK) : g ∈ x.F lb := by simp [LW.F, h]
theorem LW.mem3 {g : Nat} (h : x.rv.ownBlock = some g) : g ∈ x.F lb := by simp [LW.F, h]
theorem LW.memD {g : Nat} (h : g ∈ x.F lb) : g = lb ∨ g ∈ x.F1 ∨ x.rv.ownBlock = some g ∨ g ∈ x.FK := by
  simp only [LW.F, List.mem_cons, List.mem_append, Option.mem_toList] at h
  rcases h with h | h | h | h
  · exact Or.inl h
  · exact Or.inr (Or.inl h)
  · exact Or.inr (Or.inr (Or.inl h))
  · exact Or.inr (Or.inr (Or.inr h))
theorem GL.flt (h : GL D w0 w p d k lb x) : ∀ g ∈ x.F lb, w0.heap.size ≤ g ∧ g < w.heap.size := fun g hg => by
  rcases LW.memD hg with e | e | e | e
  · rw [e]; exact ⟨h.ge, h.blk.lt⟩
  · exact h.pl.flt g e
  · exact h.row.lt g e
  · exact D.ge h.k g e
/-- What is written elsewhere leaves it as it is. -/
theorem GL.frame (h : GL D w0 w p d k lb x) {M : List Nat} (ht : KTouch M w w') (hM : ∀ m ∈ M, m ∉ x.F lb ∧ w0.heap.size ≤ m) : GL D w0 w' p d k lb x := by
  have hs := ht.size
  exact ⟨h.since.trans (ht.below (fun m hm => (hM m hm).2) h.since.size), h.blk.to (ht.block lb h.blk.lt (fun hm => (hM _ hm).1 (x.mem0 lb))), D.frame h.k ht (fun m hm => ⟨fun hf => (hM m hm).1 (LW.mem2 hf), (hM m hm).2⟩), h.pl.kept hs (fun g hg => ht.block g (h.pl.flt g hg).2 (fun hm => (hM _ hm).1 (LW.mem1 hg))), own_block h.row (fun g hg => ht.block g (h.row.lt g hg).2 (fun hm => (hM _ hm).1 (LW.mem3 hg))), h.tx, h.ge, h.a1, h.a2, h.a3, h.a4⟩
theorem GL.all (h : GL D w0 w p d k lb x) (hb : Below w.heap.size w w') : GL D w0 w' p d k lb x := h.frame (M := []) (KTouch.of hb) (by simp)
theorem GL.lower {w1 : World} (h : GL D w0 w p d k lb x) (hb : Below w1.heap.size w1 w0) : GL D w1 w p d k lb x :=
  ⟨hb.trans (h.since.mono hb.size), h.blk, D.lower hb h.k, h.pl.lower hb.size, own_base h.row hb.size, h.tx, Nat.le_trans hb.size h.ge, h.a1, h.a2, h.a3, h.a4⟩
/-- Cells of its own block are others. -/
theorem GL.cells (h : GL D w0 w p d k lb x) (ht : KTouch [lb] w w') (hb : LBk w' lb x.cv p.ticks x.sv x.wv (.pointer (some ⟨x.kb, 0, none⟩)) x.rv (d'.safe : Nat) d'.fail d'.stop) (htx : LTx d' x.bs) : GL D w0 w' p d' k lb x := by
  have hs := ht.size
  have hge := h.ge
  exact ⟨h.since.trans (ht.below (fun m hm => by rw [List.mem_singleton] at hm; omega) h.since.size), hb, D.frame h.k ht (fun m hm => by rw [List.mem_singleton] at hm; subst hm; exact ⟨h.a2, hge⟩), h.pl.kept hs (fun g hg => ht.block g (h.pl.flt g hg).2 (fun hm => by rw [List.mem_singleton] at hm; subst hm; exact h.a1 hg)), own_block h.row (fun g hg => ht.block g (h.row.lt g hg).2 (fun hm => by rw [List.mem_singleton] at hm; exact (h.a3 g hg).1 hm)), htx, h.ge, h.a1, h.a2, h.a3, h.a4⟩
/-- Its kernel is another one. -/
theorem GL.ker (h : GL D w0 w p d k lb x) {F' : List Nat} (ht : KTouch x.FK w w') (hk : D.K w0 w' p x.vc x.vs x.vw k' x.kb F') (hn : ∀ g ∈ F', g ∈ x.FK ∨ w.heap.size ≤ g) : GL D w0 w' p d k' lb { x with FK := F' } := by
  have hs := ht.size
  have hge := h.ge
  have hlt := h.blk.lt
  refine ⟨h.since.trans (ht.below (fun m hm => (D.ge h.k m hm).1) h.since.size), h.blk.to (ht.block lb hlt h.a2), hk, h.pl.kept hs (fun g hg => ht.block g (h.pl.flt g hg).2 (h.a4 g hg)), own_block h.row (fun g hg => ht.block g (h.row.lt g hg).2 (h.a3 g hg).2.2), h.tx, h.ge, h.a1, fun hm => ?_, fun g hg => ⟨(h.a3 g hg).1, (h.a3 g hg).2.1, fun hm => ?_⟩, fun g hg hm => ?_⟩
  · rcases hn lb hm with e | e
    · exact h.a2 e
    · omega
  · rcases hn g hm with e | e
    · exact (h.a3 g hg).2.2 e
    · have := (h.row.lt g hg).2
      omega
  · rcases hn g hm with e | e
    · exact h.a4 g hg e
    · have := (h.pl.flt g hg).2
      omega
theorem LW.ker_new {F' : List Nat} {m : Nat} (hn : ∀ g ∈ F', g ∈ x.FK ∨ m ≤ g) : ∀ g ∈ LW.F { x with FK := F' } lb, g ∈ x.F lb ∨ m ≤ g := fun g hg => by
  rcases LW.memD hg with e | e | e | e
  · exact Or.inl (by rw [e]; exact x.mem0 lb)
  · exact Or.inl (LW.mem1 e)
  · exact Or.inl (LW.mem3 e)
  · exact (hn g e).imp LW.mem2 id
/-- Its bytes are others. -/
theorem GL.text (h : GL D w0 w p d k lb x) {wa : World} {rv' : Value} {bs' : List UInt8} (hg : w.grownBy wa x.rv.ownBlock) (hown : wa.ownsRow w0.heap.size 5 1 rv' bs'.length (Lib.byteCells bs')) (hnew : ∀ g, rv'.ownBlock = some g → x.rv.ownBlock = some g ∨ w.heap.size ≤ g) (h1 : d'.safe = d.safe) (h2 : d'.fail = d.fail) (h3 : d'.stop = d.stop) (htx : LTx d' bs') :
    GL D w0 (wa.setCell ⟨lb, 5, none⟩ rv') p d' k lb { x with rv := rv', bs := bs' } ∧ KTouch (x.F lb) w (wa.setCell ⟨lb, 5, none⟩ rv') ∧ ∀ g ∈ LW.F { x with rv := rv', bs := bs' } lb, g ∈ x.F lb ∨ w.heap.size ≤ g := by
  have hset : ∀ g, g ≠ lb → (wa.setCell ⟨lb, 5, none⟩ rv').heap[g]? = wa.heap[g]? := fun g hg' => Below.heap_setCell _ _ _ _ hg'
  have hsz : (wa.setCell ⟨lb, 5, none⟩ rv').heap.size = wa.heap.size := by simp
  have hgs := hg.size
  have hlt := h.blk.lt
  have hge := h.ge
  have hlbo : x.rv.ownBlock ≠ some lb := fun e => (h.a3 lb e).1 rfl
  have hwl : wa.heap[lb]? = w.heap[lb]? := hg.block lb hlt (fun e => hlbo e.symm)
  have ht : KTouch (lb :: x.rv.ownBlock.toList) w (wa.setCell ⟨lb, 5, none⟩ rv') := ⟨hg.os, hg.tape, hg.output, by omega, fun g hgl hm => (hset g (fun e => hm (by simp [e]))).trans (hg.block g hgl (fun e => hm (by simp [← e])))⟩
  have hin : ∀ m ∈ lb :: x.rv.ownBlock.toList, m = lb ∨ x.rv.ownBlock = some m := fun m hm => by
    simpa only [List.mem_cons, Option.mem_toList] using hm
  have hb' : LBk (wa.setCell ⟨lb, 5, none⟩ rv') lb x.cv p.ticks x.sv x.wv (.pointer (some ⟨x.kb, 0, none⟩)) rv' (d.safe : Nat) d.fail d.stop := (h.blk.to hwl).recs rv'
  have hrl : ∀ g, rv'.ownBlock = some g → g ≠ lb := fun g hg' e => by
    rcases hnew g hg' with e1 | e1
    · exact (h.a3 g e1).1 e
    · omega
  refine ⟨⟨h.since.trans (ht.below (fun m hm => ?_) h.since.size), by rw [h1, h2, h3]; exact hb', D.frame h.k ht (fun m hm => ?_), h.pl.kept (by omega) (fun g hg' => ht.block g (h.pl.flt g hg').2 (fun hm => ?_)), own_block hown (fun g hg' => hset g (hrl g hg')), htx, h.ge, h.a1, h.a2, fun g hg' => ⟨hrl g hg', ?_, ?_⟩, h.a4⟩, ht.mono (fun m hm => ?_), fun g hg' => ?_⟩
  · rcases hin m hm with e | e
    · omega
    · exact (h.row.lt m e).1
  · rcases hin m hm with e | e
    · rw [e]; exact ⟨h.a2, h.ge⟩
    · exact ⟨(h.a3 m e).2.2, (h.row.lt m e).1⟩
  · rcases hin g hm with e | e
    · exact h.a1 (by rw [← e]; exact hg')
    · exact (h.a3 g e).2.1 hg'
  · intro hm
    rcases hnew g hg' with e | e
    · exact (h.a3 g e).2.1 hm
    · have := (h.pl.flt g hm).2
      omega
  · intro hm
    rcases hnew g hg' with e | e
    · exact (h.a3 g e).2.2 hm
    · have := (D.ge h.k g hm).2
      omega
  · rcases hin m hm with e | e
    · rw [e]; exact x.mem0 lb
    · exact LW.mem3 e
  · rcases LW.memD hg' with e | e | e | e
    · exact Or.inl (by rw [e]; exact x.mem0 lb)
    · exact Or.inl (LW.mem1 e)
    · exact (hnew g e).imp LW.mem3 id
    · exact Or.inl (LW.mem2 e)
end
end Go.Proofs.YtajfgmlockjmhaiGreatDoor
namespace Go.Proofs.YtajfgmlockjmhaiGreatDoor
open Go.RowKit
section
variable {G : World → Prop} {D : KerC G} {w0 : World} {p : PD} {d : LgD} {k : KD} {lb : Nat} {x : LW}

end
end Go.Proofs.YtajfgmlockjmhaiGreatDoor
namespace Go.Proofs.YtajfgmlockjmhaiGreatDoor
open Go.RowKit

set_option maxRecDepth 100000 in
set_option maxHeartbeats 4000000 in
theorem lastib_any (s : ByteArray) (n : Nat) (w : World) (hn : LastNl s.data.toList n) (hl : n ≤ s.size) (hs : s.size ≤ 1000000) :
    Calls Tryz.prog 88 #[.string s, .int .u8 10] w fun e w' => e = .returned (.int .i64 ((n : Int) - 1)) ∧ Below w.heap.size w w' := by
  have hsl : s.data.toList.length = s.size := by simp
  have HN : Hid (LastNl s.data.toList n) := hn
  clear hn
  go_enter Tryz.func88, Tryz.ntmps88
  go_upto_region 2 with fail
  go_loopw [5] (fun i wr => ∃ k : Nat, n ≤ k ∧ k ≤ s.size ∧ i = .int .i64 ((k : Int) - 1) ∧ Below w.heap.size w wr) (fun i _ => (intOf i + 1).toNat)
  case atStart => exact ⟨s.size, hl, Nat.le_refl _, by go_num, Below.refl _ _⟩
  case round =>
    obtain ⟨k, hnk, hks, rfl, hb⟩ := hrel
    rcases Nat.eq_zero_or_pos k with rfl | hk
    · obtain rfl : n = 0 := by omega
      have h0 : decide ((0 : Int) ≤ ((0 : Nat) : Int) - 1) = false := by decide
      go_wp2
      go_ret
      exact ⟨rfl, hb⟩
    · obtain ⟨j, rfl⟩ : ∃ j, k = j + 1 := ⟨k - 1, by omega⟩
      rw [show (((j + 1 : Nat) : Int) - 1) = (j : Int) by omega]
      have hj : j < s.size := by omega
      have hjl : j < s.data.toList.length := by omega
      have hgd : s[j] = s.data.toList[j] := rfl
      by_cases hx : s.data.toList[j] = 10
      · have hnj : n = j + 1 := by
          refine Classical.byContradiction fun hne => HN.out.2 j (by omega) ?_
          rw [List.getElem?_eq_getElem hjl, hx]
        have ht : ((s[j].toNat : Int) == 10) = true := by rw [hgd, hx]; decide
        clear hx hgd
        go_wp2
        go_ret
        exact ⟨by rw [hnj]; simp, hb⟩
      · have hnj : n ≤ j := by
          refine Classical.byContradiction fun hgt => hx ?_
          obtain rfl : n = j + 1 := by omega
          rcases HN.out.1 with h | ⟨_, h⟩
          · omega
          · rw [Nat.add_sub_cancel, List.getElem?_eq_getElem hjl] at h
            exact Option.some.inj h
        have ht : ((s[j].toNat : Int) == 10) = false := by
          rw [hgd]
          simp only [beq_eq_false_iff_ne, ne_eq]
          intro e
          exact hx (UInt8.toNat_inj.1 (by have : (10 : UInt8).toNat = 10 := rfl; omega))
        clear hx hgd
        go_wp2
        go_roundw
        case rel => exact ⟨j, hnj, by omega, by go_num, hb⟩
        case measure => simp [intOf]
set_option maxRecDepth 100000 in
set_option maxHeartbeats 1000000 in
theorem lastix_any (s : ByteArray) (n : Nat) (w : World) (hn : LastNl s.data.toList n) (hl : n ≤ s.size) (hs : s.size ≤ 1000000) :
    Calls Tryz.prog 52 #[.string s, .int .u8 10] w fun e w' => e = .returned (.int .i64 ((n : Int) - 1)) ∧ Below w.heap.size w w' := by
  have hq := lastib_any s n w hn hl hs
  clear hn
  generalize ((n : Int) - 1) = m at *
  go_enter Tryz.func52, Tryz.ntmps52
  go_wp2_with (go_at_call 88; refine hq.mono ?_; rintro e w1 ⟨rfl, b1⟩; clear hq)
  go_ret
  exact ⟨rfl, b1⟩
end Go.Proofs.YtajfgmlockjmhaiGreatDoor
namespace Go.Proofs.YtajfgmlockjmhaiGreatDoor
open Go.RowKit
section
variable {G : World → Prop} {D : KerC G} {w0 : World} {p : PD} {d : LgD} {lb : Nat} {x : LW}

set_option maxRecDepth 100000 in
set_option maxHeartbeats 4000000 in
theorem lgstate_any (r : Int) (w : World) (h : GL D w0 w p d (d.k p) lb x) (hp : plchk p = 0) :
    Calls Tryz.prog 31 #[.pointer (some ⟨lb, 0, none⟩), .int .i64 r] w fun e w' => e = .returned (.tuple #[stA (roomK (d.k p) r), wErr (errB (noRoom (d.k p) r))]) ∧ Below w.heap.size w w' := by
  have hB1 : Below w.heap.size w (w.alloc (.cells #[.int .i64 0, .int .i64 0, .int .i64 0, .int .i64 0, .int .i64 0, .int .i64 0, .int .i64 0, .bool false] 73)) := (Below.refl _ w).alloc (Nat.le_refl _) _
  have hbox : StB (w.alloc (.cells #[.int .i64 0, .int .i64 0, .int .i64 0, .int .i64 0, .int .i64 0, .int .i64 0, .int .i64 0, .bool false] 73)) w.heap.size stNew := World.alloc_heap_new w _
  generalize hW1 : w.alloc (.cells #[.int .i64 0, .int .i64 0, .int .i64 0, .int .i64 0, .int .i64 0, .int .i64 0, .int .i64 0, .bool false] 73) = W1 at hB1 hbox
  have D1 := h.all hB1
  have HS : Hid (Calls Tryz.prog 32 #[.pointer (some ⟨x.kb, 0, none⟩), .int .i64 r] W1 fun e w' => e = .returned (.tuple #[.agg #[.int .i64 (roomK (d.k p) r).p, .int .i64 ((roomK (d.k p) r).c 0), .int .i64 ((roomK (d.k p) r).c 1), .int .i64 ((roomK (d.k p) r).c 2), .int .i64 ((roomK (d.k p) r).c 3), .int .i64 ((roomK (d.k p) r).c 4), .int .i64 ((roomK (d.k p) r).c 5), .bool (roomK (d.k p) r).f], wErr (errB (noRoom (d.k p) r))]) ∧ Below W1.heap.size W1 w') := D.state r D1.k (redo_ok hp _) hp
  obtain ⟨_, _, _, _, c0, _, _, _, _⟩ := D1.blk.cs
  clear h D1 hp
  unfold stA
  generalize roomK (d.k p) r = s at HS ⊢
  generalize wErr (errB (noRoom (d.k p) r)) = ev at HS ⊢
  go_enter Tryz.func31, Tryz.ntmps31
  go_upto_region 1 with fail
  clear hW1
  go_wp2_with (go_at_call 32; refine HS.out.mono ?_; rintro e w1 ⟨rfl, b1⟩; have hst : StB w1 w.heap.size stNew := (b1.block _ (Array.getElem?_eq_some_iff.1 hbox).1).trans hbox; obtain ⟨m0, m1, m2, m3, m4, m5, m6, m7⟩ := hst.cs; simp only [Nat.zero_add] at m1 m2 m3 m4 m5 m6 m7; have z0 := stb_fz hst 0; have z1 := stb_fz hst 1; have z2 := stb_fz hst 2; have z3 := stb_fz hst 3; have z4 := stb_fz hst 4; have z5 := stb_fz hst 5; have z6 := stb_fz hst 6; have z7 := stb_fz hst 7)
  refine bodyPost_ret (v := .tuple #[.agg #[.int .i64 s.p, .int .i64 (s.c 0), .int .i64 (s.c 1), .int .i64 (s.c 2), .int .i64 (s.c 3), .int .i64 (s.c 4), .int .i64 (s.c 5), .bool s.f], ev]) ?_ rfl ⟨rfl, below_st8 (hB1.trans (b1.mono hB1.size)) _ (Nat.le_refl _) _ _ _ _ _ _ _ _⟩
  simp [results, Tryz.results31, go_sem, m0, m1, m2, m3, m4, m5, m6, m7]
end
end Go.Proofs.YtajfgmlockjmhaiGreatDoor
namespace Go.Proofs.YtajfgmlockjmhaiGreatDoor
open Go.RowKit

set_option maxRecDepth 100000 in
set_option maxHeartbeats 2000000 in
theorem number3_long (s : ByteArray) (w : World) (h : 3 < s.size) :
    Calls Tryz.prog 114 #[.string s, .int .i64 3] w fun e w' => e = .returned (.tuple #[.int .i64 0, .bool false]) ∧ Below w.heap.size w w' := by
  go_enter Tryz.func114, Tryz.ntmps114
  go_wp2
  go_ret2
  exact ⟨rfl, Below.refl _ _⟩
set_option maxRecDepth 100000 in
set_option maxHeartbeats 2000000 in
theorem number3_bad (s : ByteArray) (w : World) (hl : s.size ≤ 3) (h : Lib.atoi s.data.toList = none) (he : ErrS w) :
    Calls Tryz.prog 114 #[.string s, .int .i64 3] w fun e w' => e = .returned (.tuple #[.int .i64 0, .bool false]) ∧ Below w.heap.size w w' := by
  have hat := atoi_no s (by omega) h w he
  clear h he
  go_enter Tryz.func114, Tryz.ntmps114
  go_wp2_with (go_at_call 152; refine hat.mono ?_; rintro e w1 ⟨t, p, rfl, b1⟩; clear hat)
  go_ret2
  exact ⟨rfl, b1⟩
set_option maxRecDepth 100000 in
set_option maxHeartbeats 2000000 in
theorem number3_neg (s : ByteArray) (n : Int) (w : World) (hl : s.size ≤ 3) (h : Lib.atoi s.data.toList = some n) (hn : n < 0) :
    Calls Tryz.prog 114 #[.string s, .int .i64 3] w fun e w' => e = .returned (.tuple #[.int .i64 0, .bool false]) ∧ Below w.heap.size w w' := by
  have hat := atoi_yes s n (by omega) h w
  clear h
  go_enter Tryz.func114, Tryz.ntmps114
  go_wp2_with (go_at_call 152; refine hat.mono ?_; rintro e w1 ⟨rfl, b1⟩; clear hat)
  go_ret2
  exact ⟨rfl, b1⟩
set_option maxRecDepth 100000 in
set_option maxHeartbeats 2000000 in
theorem number3_yes (s : ByteArray) (n : Int) (w : World) (hl : s.size ≤ 3) (h : Lib.atoi s.data.toList = some n) (hn : 0 ≤ n) (hp : Pow10 w) (hB : (Lib.itoa n == s.toList) = true) :
    Calls Tryz.prog 114 #[.string s, .int .i64 3] w fun e w' => e = .returned (.tuple #[.int .i64 n, .bool true]) ∧ Below w.heap.size w w' := by
  have hr := atoi_range (by simpa using (show s.size ≤ 18 by omega)) h
  have hat := atoi_yes s n (by omega) h w
  clear h
  go_enter Tryz.func114, Tryz.ntmps114
  go_wp2_with (first | (go_at_call 152; refine hat.mono ?_; rintro e w1 ⟨rfl, b1⟩; clear hat) | (go_at_call 105; refine (itoa_any n hr.1 hr.2 w1 (hp.all b1)).mono ?_; rintro e w2 ⟨rfl, b2⟩))
  go_ret2
  exact ⟨rfl, b1.trans (b2.mono b1.size)⟩
set_option maxRecDepth 100000 in
set_option maxHeartbeats 2000000 in
theorem number3_other (s : ByteArray) (n : Int) (w : World) (hl : s.size ≤ 3) (h : Lib.atoi s.data.toList = some n) (hn : 0 ≤ n) (hp : Pow10 w) (hB : (Lib.itoa n == s.toList) = false) :
    Calls Tryz.prog 114 #[.string s, .int .i64 3] w fun e w' => e = .returned (.tuple #[.int .i64 0, .bool false]) ∧ Below w.heap.size w w' := by
  have hr := atoi_range (by simpa using (show s.size ≤ 18 by omega)) h
  have hat := atoi_yes s n (by omega) h w
  clear h
  go_enter Tryz.func114, Tryz.ntmps114
  go_wp2_with (first | (go_at_call 152; refine hat.mono ?_; rintro e w1 ⟨rfl, b1⟩; clear hat) | (go_at_call 105; refine (itoa_any n hr.1 hr.2 w1 (hp.all b1)).mono ?_; rintro e w2 ⟨rfl, b2⟩))
  go_ret2
  exact ⟨rfl, b1.trans (b2.mono b1.size)⟩

theorem number3_any (s : ByteArray) (w : World) (ht : Tabs2 w) :
    Calls Tryz.prog 114 #[.string s, .int .i64 3] w fun e w' => e = .returned (.tuple #[.int .i64 ((numB3 s.data.toList).getD 0), .bool (numB3 s.data.toList).isSome]) ∧ Below w.heap.size w w' := by
  have hsl : s.data.toList.length = s.size := by simp
  have hst : s.toList = s.data.toList := Lib.toList_data s
  by_cases h1 : 3 < s.size
  · rw [numB3_long (by omega)]; exact number3_long s w h1
  · cases h2 : Lib.atoi s.data.toList with
    | none => rw [numB3_bad h2]; exact number3_bad s w (by omega) h2 ht.err
    | some n =>
      by_cases h3 : n < 0
      · rw [numB3_neg h2 h3]; exact number3_neg s n w (by omega) h2 h3
      · by_cases h4 : Lib.itoa n = s.data.toList
        · rw [numB3_yes (by omega) h2 (by omega) h4]; exact number3_yes s n w (by omega) h2 (by omega) ht.tabs.pow (by rw [hst]; simpa using h4)
        · rw [numB3_other h2 h4]; exact number3_other s n w (by omega) h2 (by omega) ht.tabs.pow (by rw [hst]; simpa using h4)
end Go.Proofs.YtajfgmlockjmhaiGreatDoor
namespace Go.Proofs.YtajfgmlockjmhaiGreatDoor
open Go.RowKit

set_option maxRecDepth 100000 in
set_option maxHeartbeats 2000000 in
theorem number7_long (s : ByteArray) (w : World) (h : 7 < s.size) :
    Calls Tryz.prog 114 #[.string s, .int .i64 7] w fun e w' => e = .returned (.tuple #[.int .i64 0, .bool false]) ∧ Below w.heap.size w w' := by
  go_enter Tryz.func114, Tryz.ntmps114
  go_wp2
  go_ret2
  exact ⟨rfl, Below.refl _ _⟩
set_option maxRecDepth 100000 in
set_option maxHeartbeats 2000000 in
theorem number7_bad (s : ByteArray) (w : World) (hl : s.size ≤ 7) (h : Lib.atoi s.data.toList = none) (he : ErrS w) :
    Calls Tryz.prog 114 #[.string s, .int .i64 7] w fun e w' => e = .returned (.tuple #[.int .i64 0, .bool false]) ∧ Below w.heap.size w w' := by
  have hat := atoi_no s (by omega) h w he
  clear h he
  go_enter Tryz.func114, Tryz.ntmps114
  go_wp2_with (go_at_call 152; refine hat.mono ?_; rintro e w1 ⟨t, p, rfl, b1⟩; clear hat)
  go_ret2
  exact ⟨rfl, b1⟩
set_option maxRecDepth 100000 in
set_option maxHeartbeats 2000000 in
theorem number7_neg (s : ByteArray) (n : Int) (w : World) (hl : s.size ≤ 7) (h : Lib.atoi s.data.toList = some n) (hn : n < 0) :
    Calls Tryz.prog 114 #[.string s, .int .i64 7] w fun e w' => e = .returned (.tuple #[.int .i64 0, .bool false]) ∧ Below w.heap.size w w' := by
  have hat := atoi_yes s n (by omega) h w
  clear h
  go_enter Tryz.func114, Tryz.ntmps114
  go_wp2_with (go_at_call 152; refine hat.mono ?_; rintro e w1 ⟨rfl, b1⟩; clear hat)
  go_ret2
  exact ⟨rfl, b1⟩
set_option maxRecDepth 100000 in
set_option maxHeartbeats 2000000 in
theorem number7_yes (s : ByteArray) (n : Int) (w : World) (hl : s.size ≤ 7) (h : Lib.atoi s.data.toList = some n) (hn : 0 ≤ n) (hp : Pow10 w) (hB : (Lib.itoa n == s.toList) = true) :
    Calls Tryz.prog 114 #[.string s, .int .i64 7] w fun e w' => e = .returned (.tuple #[.int .i64 n, .bool true]) ∧ Below w.heap.size w w' := by
  have hr := atoi_range (by simpa using (show s.size ≤ 18 by omega)) h
  have hat := atoi_yes s n (by omega) h w
  clear h
  go_enter Tryz.func114, Tryz.ntmps114
  go_wp2_with (first | (go_at_call 152; refine hat.mono ?_; rintro e w1 ⟨rfl, b1⟩; clear hat) | (go_at_call 105; refine (itoa_any n hr.1 hr.2 w1 (hp.all b1)).mono ?_; rintro e w2 ⟨rfl, b2⟩))
  go_ret2
  exact ⟨rfl, b1.trans (b2.mono b1.size)⟩
set_option maxRecDepth 100000 in
set_option maxHeartbeats 2000000 in
theorem number7_other (s : ByteArray) (n : Int) (w : World) (hl : s.size ≤ 7) (h : Lib.atoi s.data.toList = some n) (hn : 0 ≤ n) (hp : Pow10 w) (hB : (Lib.itoa n == s.toList) = false) :
    Calls Tryz.prog 114 #[.string s, .int .i64 7] w fun e w' => e = .returned (.tuple #[.int .i64 0, .bool false]) ∧ Below w.heap.size w w' := by
  have hr := atoi_range (by simpa using (show s.size ≤ 18 by omega)) h
  have hat := atoi_yes s n (by omega) h w
  clear h
  go_enter Tryz.func114, Tryz.ntmps114
  go_wp2_with (first | (go_at_call 152; refine hat.mono ?_; rintro e w1 ⟨rfl, b1⟩; clear hat) | (go_at_call 105; refine (itoa_any n hr.1 hr.2 w1 (hp.all b1)).mono ?_; rintro e w2 ⟨rfl, b2⟩))
  go_ret2
  exact ⟨rfl, b1.trans (b2.mono b1.size)⟩

theorem number7_any (s : ByteArray) (w : World) (ht : Tabs2 w) :
    Calls Tryz.prog 114 #[.string s, .int .i64 7] w fun e w' => e = .returned (.tuple #[.int .i64 ((numB7 s.data.toList).getD 0), .bool (numB7 s.data.toList).isSome]) ∧ Below w.heap.size w w' := by
  have hsl : s.data.toList.length = s.size := by simp
  have hst : s.toList = s.data.toList := Lib.toList_data s
  by_cases h1 : 7 < s.size
  · rw [numB7_long (by omega)]; exact number7_long s w h1
  · cases h2 : Lib.atoi s.data.toList with
    | none => rw [numB7_bad h2]; exact number7_bad s w (by omega) h2 ht.err
    | some n =>
      by_cases h3 : n < 0
      · rw [numB7_neg h2 h3]; exact number7_neg s n w (by omega) h2 h3
      · by_cases h4 : Lib.itoa n = s.data.toList
        · rw [numB7_yes (by omega) h2 (by omega) h4]; exact number7_yes s n w (by omega) h2 (by omega) ht.tabs.pow (by rw [hst]; simpa using h4)
        · rw [numB7_other h2 h4]; exact number7_other s n w (by omega) h2 (by omega) ht.tabs.pow (by rw [hst]; simpa using h4)
end Go.Proofs.YtajfgmlockjmhaiGreatDoor
namespace Go.Proofs.YtajfgmlockjmhaiGreatDoor
open Go.RowKit

/-- How many steps are left behind one more. -/
def lessI (fl : Int) : Int := if 0 < fl then IntKind.wrap .i64 (fl - 1) else fl
set_option maxRecDepth 100000 in
set_option maxHeartbeats 2000000 in
theorem lgstep_any (b : Nat) (cv sv wv kv rv : Value) (t sf fl : Int) (st : Bool) (w : World) (h : LBk w b cv t sv wv kv rv sf fl st) :
    Calls Tryz.prog 50 #[.pointer (some ⟨b, 0, none⟩)] w fun e w' => e = .returned (.bool (!decide (fl = 0))) ∧ LBk w' b cv t sv wv kv rv sf (lessI fl) (decide (fl = 0)) ∧ KTouch [b] w w' := by
  obtain ⟨_, _, _, _, _, _, _, c7, c8⟩ := h.cs
  have f7 := h.free 7
  have f8 := h.free 8
  have H : Hid (LBk w b cv t sv wv kv rv sf fl st) := h
  clear h
  by_cases h0 : fl = 0
  · subst h0
    go_enter Tryz.func50, Tryz.ntmps50
    go_wp2
    go_ret
    exact ⟨rfl, H.out.stop true, KTouch.set w (by simp) _ _⟩
  · have h0' : (fl == 0) = false := by simpa using h0
    have HD : Hid (decide (fl = 0) = false) := decide_eq_false h0
    by_cases h1 : 0 < fl
    · have HL : Hid (lessI fl = wrap64 (fl - 1)) := (if_pos h1).trans (IntWalk.i64_left _)
      clear h0
      go_enter Tryz.func50, Tryz.ntmps50
      go_wp2
      go_ret
      rw [HL.out, HD.out]
      exact ⟨rfl, (H.out.stop false).fail _, (KTouch.set w (by simp) _ _).trans (KTouch.set _ (by simp) _ _)⟩
    · have HL : Hid (lessI fl = fl) := if_neg h1
      have h1' : decide (0 < fl) = false := decide_eq_false h1
      clear h0
      go_enter Tryz.func50, Tryz.ntmps50
      go_wp2
      go_ret
      rw [HL.out, HD.out]
      exact ⟨rfl, H.out.stop false, KTouch.set w (by simp) _ _⟩
end Go.Proofs.YtajfgmlockjmhaiGreatDoor
