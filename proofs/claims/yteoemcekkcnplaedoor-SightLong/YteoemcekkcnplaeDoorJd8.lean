/-
  OnesM, KCountM: joined into one text.
-/
import Derived.Test.YteoemcekkcnplaeDoorJd1
import Derived.Test.YteoemcekkcnplaeDoorJd3
namespace Go.Proofs.YteoemcekkcnplaeDoor

/-- The spans: one tick each, one behind the other. -/
def ones (k : Nat) : List S3 := (List.range k).map fun (i : Nat) => ((i : Int), (i : Int) + 1, (i : Int))
theorem ones_succ (k : Nat) : ones (k + 1) = ones k ++ [((k : Int), (k : Int) + 1, (k : Int))] := by simp [ones, List.range_succ]
theorem ones_len (k : Nat) : (ones k).length = k := by simp [ones]
end Go.Proofs.YteoemcekkcnplaeDoor
namespace Go.Proofs.YteoemcekkcnplaeDoor

/-- The code of a room that counts. -/
def cntC : List O3 := [(1, 1, 1), (3, 0, 1)]
/-- So many rooms that count. -/
def cntP (n : Nat) : PD := ⟨List.replicate n cntC, n, ones n, []⟩
theorem cntP_ok : ∀ n : Nat, n < 6 → 1 ≤ n → plchk (cntP n) = 0 := by decide +kernel
theorem cnt_hold : ∀ n : Nat, n < 6 → ∀ q : Nat, q < n → hold (ones n) (q : Int) = (q : Int) := by decide +kernel
/-- A room behind so many steps. -/
def cntS (j : Nat) : St := ⟨((j % 2 : Nat) : Int), fun i => if i = 0 then (((j / 2) % 1000 : Nat) : Int) else if i = 1 then (if j = 0 then 0 else 1) else 0, false⟩
theorem cntS_new : cntS 0 = stNew := by
  unfold cntS stNew
  congr 1
  funext i
  by_cases h0 : i = 0
  · simp [h0]
  · by_cases h1 : i = 1
    · simp [h1]
    · simp [h0, h1]
theorem cntS_even (j : Nat) (h : j % 2 = 0) : stepF (1, 1, 1) (cntS j) 2 0 false = cntS (j + 1) := by
  have h1 : (j + 1) % 2 = 1 := by omega
  have h2 : (j + 1) / 2 = j / 2 := by omega
  have hp : nextF (1, 1, 1) (cntS j) 2 false = (cntS (j + 1)).p := by unfold nextF; simp [cntS, h, h1]
  have hc : cellsF (1, 1, 1) (cntS j).c 0 false = (cntS (j + 1)).c := by
    funext i
    show upd (cntS j).c 1 1 i = _
    unfold upd cntS
    by_cases h0 : i = 0
    · subst h0; simp [h2]
    · by_cases h3 : i = 1
      · subst h3; simp
      · simp [h0, h3]
  unfold stepF
  rw [if_neg (by simp [cntS]), hp, hc]
  rfl
theorem cntS_odd (j : Nat) (h : j % 2 = 1) : stepF (3, 0, 1) (cntS j) 2 0 false = cntS (j + 1) := by
  have h1 : (j + 1) % 2 = 0 := by omega
  have h2 : (j + 1) / 2 = j / 2 + 1 := by omega
  have h3 : j ≠ 0 := by omega
  have hp : nextF (3, 0, 1) (cntS j) 2 false = (cntS (j + 1)).p := by unfold nextF; simp [cntS, h, h1]
  have hc : cellsF (3, 0, 1) (cntS j).c 0 false = (cntS (j + 1)).c := by
    funext i
    show upd (cntS j).c 0 (((cntS j).c 0 + (cntS j).c 1) % 1000) i = _
    unfold upd cntS
    by_cases h0 : i = 0
    · subst h0
      simp [h2, h3]
    · by_cases h4 : i = 1
      · subst h4; simp [h3]
      · simp [h0, h4]
  unfold stepF
  rw [if_neg (by simp [cntS]), hp, hc]
  rfl
/-- How many turns a room had. -/
def cntT (n r t : Nat) : Nat := (t + n - 1 - r) / n
theorem cntT_next {n r t : Nat} (hn : 0 < n) (hr : r < n) : cntT n r (t + 1) = if r = t % n then cntT n r t + 1 else cntT n r t := by
  unfold cntT
  have hd := Nat.div_add_mod t n
  have hm := Nat.mod_lt t hn
  generalize t / n = q at hd
  generalize t % n = m at hd hm
  subst hd
  split
  · rename_i h
    subst h
    rw [show n * q + r + 1 + n - 1 - r = n * (q + 1) by rw [Nat.mul_add]; omega, show n * q + r + n - 1 - r = n * q + (n - 1) by omega, Nat.mul_div_cancel_left _ hn, Nat.mul_add_div hn, Nat.div_eq_of_lt (by omega)]
  · rename_i h
    by_cases hlt : r < m
    · rw [show n * q + m + 1 + n - 1 - r = n * (q + 1) + (m - r) by rw [Nat.mul_add]; omega, show n * q + m + n - 1 - r = n * (q + 1) + (m - r - 1) by rw [Nat.mul_add]; omega, Nat.mul_add_div hn, Nat.mul_add_div hn, Nat.div_eq_of_lt (by omega), Nat.div_eq_of_lt (by omega)]
    · rw [show n * q + m + 1 + n - 1 - r = n * q + (m + n - r) by omega, show n * q + m + n - 1 - r = n * q + (m + n - r - 1) by omega, Nat.mul_add_div hn, Nat.mul_add_div hn, Nat.div_eq_of_lt (by omega), Nat.div_eq_of_lt (by omega)]
/-- All of it behind so many ticks. -/
def cntK (n t : Nat) : KD := ⟨(List.range n).map fun r => cntS (cntT n r t), [], t⟩
theorem cntK_new (n : Nat) : newK (cntP n) = cntK n 0 := by
  unfold newK cntK cntP
  simp only [List.map_replicate, List.map_nil, KD.mk.injEq, true_and]
  refine ⟨?_, rfl⟩
  apply List.ext_getElem?
  intro i
  by_cases hi : i < n
  · have : cntT n i 0 = 0 := by unfold cntT; exact Nat.div_eq_of_lt (by omega)
    simp [hi, this, cntS_new]
  · simp [hi]
theorem cntK_room {n t r : Nat} (hr : r < n) : (cntK n t).rooms[r]? = some (cntS (cntT n r t)) := by simp [cntK, hr]
theorem cntK_tick {n t : Nat} (hn : 0 < n) (h5 : n < 6) : (tickK (cntP n) (cntP n).spans (cntK n t)).1 = cntK n (t + 1) := by
  have hm := Nat.mod_lt t hn
  have hh : hold (cntP n).spans ((cntK n t).time % (cntP n).ticks) = ((t % n : Nat) : Int) := by
    show hold (ones n) ((t : Int) % (n : Int)) = _
    rw [show (t : Int) % (n : Int) = ((t % n : Nat) : Int) from rfl]
    exact cnt_hold n h5 _ hm
  unfold tickK
  simp only [hh]
  rw [if_neg (by omega), Int.toNat_natCast]
  generalize hq : t % n = q at hm
  unfold turnK
  have hc : (cntP n).code.getD q [] = cntC := by simp [cntP, List.getD, hm]
  have hs : (cntK n t).rooms.getD q stNew = cntS (cntT n q t) := by simp [List.getD, cntK_room hm]
  simp only [hc, hs]
  have hst : ∀ j, stepF (opAt cntC (cntS j)) (cntS j) cntC.length (gotK (cntK n t) (opAt cntC (cntS j)) (cntS j)).1 (gotK (cntK n t) (opAt cntC (cntS j)) (cntS j)).2 = cntS (j + 1) ∧ linesS (linesT (cntK n t) (opAt cntC (cntS j)) (cntS j)) (opAt cntC (cntS j)) (sendF (opAt cntC (cntS j)) (cntS j)) = [] := fun j => by
    rcases Nat.mod_two_eq_zero_or_one j with h | h
    · have ho : opAt cntC (cntS j) = (1, 1, 1) := by unfold opAt; simp [cntS, h, cntC]
      rw [ho]
      exact ⟨cntS_even j h, rfl⟩
    · have ho : opAt cntC (cntS j) = (3, 0, 1) := by unfold opAt; simp [cntS, h, cntC]
      rw [ho]
      exact ⟨cntS_odd j h, rfl⟩
  rw [(hst _).1, (hst _).2]
  unfold cntK
  simp only [KD.mk.injEq, true_and]
  refine ⟨?_, by simp⟩
  apply List.ext_getElem?
  intro i
  by_cases hi : i < n
  · rw [List.getElem?_set]
    simp only [List.length_map, List.length_range, List.getElem?_map, List.getElem?_range hi, Option.map_some]
    rw [cntT_next hn hi, hq]
    by_cases hqi : q = i
    · subst hqi
      simp [hm]
    · simp [hqi, Ne.symm hqi]
  · simp [hi]
theorem cntK_ok {n : Nat} (hn : 0 < n) (h5 : n < 6) : ∀ t, KOk (cntP n) (cntK n t)
  | 0 => by rw [← cntK_new n]; exact new_ok (cntP_ok n h5 hn)
  | t + 1 => by rw [← cntK_tick hn h5]; exact tick_ok (cntP_ok n h5 hn) (cntK_ok hn h5 t)
/-- Behind whole frames of their steps all have counted alike. -/
theorem cntT_whole {n r m : Nat} (hn : 0 < n) (hr : r < n) : cntT n r (2 * n * m) = 2 * m := by
  unfold cntT
  rw [show 2 * n * m + n - 1 - r = n * (2 * m) + (n - 1 - r) by rw [show 2 * n * m = n * (2 * m) by rw [Nat.mul_comm 2 n, Nat.mul_assoc]]; omega, Nat.mul_add_div hn, Nat.div_eq_of_lt (by omega)]
  omega
theorem cntS_whole {m : Nat} (hm : m ≤ 40) : (cntS (2 * m)).p = 0 ∧ (cntS (2 * m)).c 0 = (m : Int) := by
  unfold cntS
  refine ⟨?_, ?_⟩
  · show ((2 * m % 2 : Nat) : Int) = 0
    omega
  · show (((2 * m / 2) % 1000 : Nat) : Int) = m
    omega
end Go.Proofs.YteoemcekkcnplaeDoor
