/-
  A room that fails at each third op, and goes on, plain.
-/
import Derived.Test.YteoemcekkcnplafDoorJc5
namespace Go.Proofs.YteoemcekkcnplafDoor

def onP : PD := ⟨[[(1, 1, 1), (3, 0, 1), (11, 0, 0)]], 1, [(0, 1, 0)], []⟩
theorem onP_ok : plchk onP = 0 := by decide +kernel
/-- Its state behind so many steps that are no rest. -/
def onS (m : Nat) : St := ⟨if m % 3 = 0 then (if m = 0 then 0 else 2) else ((m % 3 : Nat) : Int), fun i => if i = 0 then (((m + 1) / 3 : Nat) : Int) else if i = 1 then (if m = 0 then 0 else 1) else 0, decide (0 < m ∧ m % 3 = 0)⟩
def onM (most j : Nat) : Nat := min j (3 * (most + 1))
def onD (most j : Nat) : CD := ⟨⟨[onS (onM most j)], [], j⟩, [(((onM most j - 1) / 3 : Nat) : Int)]⟩
theorem onS_new : onS 0 = stNew := by
  unfold onS stNew
  congr 1
  funext i
  by_cases h0 : i = 0
  · simp [h0]
  · by_cases h1 : i = 1 <;> simp [h0, h1]
theorem onD_new (most : Nat) : newC onP = onD most 0 := by
  unfold newC onD onM
  rw [Nat.zero_min, onS_new]
  rfl
theorem on_who (k : KD) : whoK onP k = 0 := by
  unfold whoK onP
  simp only
  rw [show k.time % 1 = 0 by omega]
  decide +kernel
/-- The room's turn. -/
theorem on_turn (s : St) (t : Int) (o : O3) (ho : opAt [(1, 1, 1), (3, 0, 1), (11, 0, 0)] s = o) (h8 : o.1 ≠ 8) (h9 : o.1 ≠ 9) : (turnK onP ⟨[s], [], t⟩ 0).1 = ⟨[stepF o s 3 0 false], [], t + 1⟩ := by
  have e1 : onP.code.getD 0 [] = [(1, 1, 1), (3, 0, 1), (11, 0, 0)] := rfl
  have e2 : ([s] : List St).getD 0 stNew = s := rfl
  have ht : takesB o s = false := by unfold takesB; simp [h9]
  have hs : sendF o s = -1 := by simp [sendF, sentF, h8]
  unfold turnK
  simp only [e1, e2, ho]
  unfold gotK linesT linesS
  rw [ht, hs]
  rfl
theorem on_tick (k : KD) : (tickK onP onP.spans k).1 = (turnK onP k 0).1 := by
  have := on_who k
  unfold whoK at this
  unfold tickK
  simp only [this]
  rw [if_neg (by omega)]
  rfl
theorem on_help (most j : Nat) : helpC onP [2] most (onD most j) = if 0 < onM most j ∧ onM most j % 3 = 0 ∧ (onM most j - 1) / 3 < most then ⟨⟨[⟨0, (onS (onM most j)).c, false⟩], [], j⟩, [(((onM most j - 1) / 3 : Nat) : Int) + 1]⟩ else onD most j := by
  have hw : whoK onP (onD most j).k = 0 := on_who _
  unfold helpC
  rw [hw]
  have e1 : (onD most j).k.rooms.getD 0 stNew = onS (onM most j) := rfl
  have e2 : (onD most j).ts.getD 0 0 = (((onM most j - 1) / 3 : Nat) : Int) := rfl
  have e3 : caresB [2] most (onD most j) 0 = decide (0 < onM most j ∧ onM most j % 3 = 0 ∧ (onM most j - 1) / 3 < most) := by
    unfold caresB
    rw [e1, e2]
    show (decide (0 < onM most j ∧ onM most j % 3 = 0) && (decide ((0 : Int) < 2) && decide ((((onM most j - 1) / 3 : Nat) : Int) < (most : Int)))) = _
    by_cases h1 : 0 < onM most j ∧ onM most j % 3 = 0
    · by_cases h2 : (onM most j - 1) / 3 < most
      · rw [decide_eq_true h1, decide_eq_true (show (((onM most j - 1) / 3 : Nat) : Int) < (most : Int) by omega), decide_eq_true (show 0 < onM most j ∧ onM most j % 3 = 0 ∧ (onM most j - 1) / 3 < most from ⟨h1.1, h1.2, h2⟩)]
        rfl
      · rw [decide_eq_true h1, decide_eq_false (show ¬ (((onM most j - 1) / 3 : Nat) : Int) < (most : Int) by omega), decide_eq_false (p := 0 < onM most j ∧ onM most j % 3 = 0 ∧ (onM most j - 1) / 3 < most) (fun e => h2 e.2.2)]
        rfl
    · rw [decide_eq_false h1, decide_eq_false (p := 0 < onM most j ∧ onM most j % 3 = 0 ∧ (onM most j - 1) / 3 < most) (fun e => h1 ⟨e.1, e.2.1⟩)]
      rfl
  rw [show (0 : Int).toNat = 0 from rfl, e3, e1, e2]
  by_cases hc : 0 < onM most j ∧ onM most j % 3 = 0 ∧ (onM most j - 1) / 3 < most
  · rw [if_pos ⟨Int.le_refl _, decide_eq_true hc⟩, if_pos hc]
    have hp : (onS (onM most j)).p = 2 := by
      unfold onS
      simp only
      rw [if_pos hc.2.1, if_neg (by omega)]
    have hh : helpS onP [2] 0 (onS (onM most j)) = ⟨0, (onS (onM most j)).c, false⟩ := by
      unfold helpS
      rw [hp]
      rfl
    rw [hh]
    rfl
  · rw [if_neg (fun e => hc (of_decide_eq_true e.2)), if_neg hc]
theorem on_set (c : Nat → Int) : stepF (1, 1, 1) ⟨0, c, false⟩ 3 0 false = ⟨1, upd c 1 1, false⟩ := rfl
theorem on_add (c : Nat → Int) : stepF (3, 0, 1) ⟨1, c, false⟩ 3 0 false = ⟨2, upd c 0 ((c 0 + c 1) % 1000), false⟩ := rfl
theorem on_fail (c : Nat → Int) : stepF (11, 0, 0) ⟨2, c, false⟩ 3 0 false = ⟨2, c, true⟩ := rfl
/-- IT GOES ON BEHIND IT. -/
theorem on_step (most j : Nat) (hm : most ≤ 100) : tickC onP [2] most (onD most j) = onD most (j + 1) := by
  unfold tickC
  rw [on_help]
  by_cases hc : 0 < onM most j ∧ onM most j % 3 = 0 ∧ (onM most j - 1) / 3 < most
  · rw [if_pos hc]
    have hj : onM most j = j := by unfold onM at hc ⊢; omega
    have hj1 : onM most (j + 1) = j + 1 := by unfold onM at hc ⊢; omega
    rw [hj] at hc ⊢
    rw [on_tick _, on_turn _ _ (1, 1, 1) rfl (by decide) (by decide), on_set]
    unfold onD
    rw [hj1]
    have hs : (⟨1, upd (onS j).c 1 1, false⟩ : St) = onS (j + 1) := by
      unfold onS
      have h1 : (j + 1) % 3 = 1 := by omega
      have h2 : (j + 1 + 1) / 3 = (j + 1) / 3 := by omega
      congr 1
      · rw [h1]; rfl
      · funext i
        unfold upd
        by_cases h0 : i = 0
        · subst h0; simp [h2]
        · by_cases h3 : i = 1
          · subst h3; simp
          · simp [h0, h3]
      · rw [h1]; simp
    have h5 : (((j - 1) / 3 : Nat) : Int) + 1 = (((j + 1 - 1) / 3 : Nat) : Int) := by
      have : (j - 1) / 3 + 1 = (j + 1 - 1) / 3 := by omega
      rw [← this]
      push_cast
      rfl
    rw [hs, h5]
    rfl
  · rw [if_neg hc]
    show CD.mk (tickK onP onP.spans ⟨[onS (onM most j)], [], (j : Int)⟩).1 [(((onM most j - 1) / 3 : Nat) : Int)] = _
    rw [on_tick _]
    by_cases hlast : 3 * (most + 1) ≤ j
    · have hj : onM most j = 3 * (most + 1) := by unfold onM; omega
      have hj1 : onM most (j + 1) = 3 * (most + 1) := by unfold onM; omega
      unfold onD
      rw [hj, hj1]
      have hp : (onS (3 * (most + 1))).p = 2 := by
        unfold onS
        simp only
        rw [if_pos (by omega), if_neg (by omega)]
      have hf : (onS (3 * (most + 1))).f = true := by
        unfold onS
        exact decide_eq_true (by omega)
      have ho : opAt [(1, 1, 1), (3, 0, 1), (11, 0, 0)] (onS (3 * (most + 1))) = (11, 0, 0) := by
        unfold opAt
        rw [hp]
        rfl
      rw [on_turn _ _ _ ho (by decide) (by decide)]
      have hs : stepF (11, 0, 0) (onS (3 * (most + 1))) 3 0 false = onS (3 * (most + 1)) := by
        unfold stepF
        rw [if_pos hf]
      rw [hs]
      rfl
    · have hj : onM most j = j := by unfold onM; omega
      have hj1 : onM most (j + 1) = j + 1 := by unfold onM; omega
      unfold onD
      rw [hj] at hc ⊢
      rw [hj1]
      have h3 : j = 0 ∨ j % 3 = 1 ∨ j % 3 = 2 := by omega
      have htm : (((j - 1) / 3 : Nat) : Int) = (((j + 1 - 1) / 3 : Nat) : Int) := by
        have : (j - 1) / 3 = (j + 1 - 1) / 3 := by omega
        rw [this]
      rw [htm]
      rcases h3 with h | h | h
      · subst h
        rw [onS_new, on_turn _ _ (1, 1, 1) rfl (by decide) (by decide)]
        have hs : stepF (1, 1, 1) stNew 3 0 false = onS (0 + 1) := by
          show (⟨1, upd (fun _ => 0) 1 1, false⟩ : St) = _
          unfold onS
          congr 1
          funext i
          unfold upd
          by_cases h0 : i = 0
          · subst h0; simp
          · by_cases h3 : i = 1 <;> simp [h0, h3]
        rw [hs]
        rfl
      · have e : onS j = ⟨1, (onS j).c, false⟩ := by
          unfold onS
          simp only [h]
          simp
        have ho : opAt [(1, 1, 1), (3, 0, 1), (11, 0, 0)] (onS j) = (3, 0, 1) := by rw [e]; rfl
        rw [on_turn _ _ _ ho (by decide) (by decide), e, on_add]
        have hs : (⟨2, upd (onS j).c 0 (((onS j).c 0 + (onS j).c 1) % 1000), false⟩ : St) = onS (j + 1) := by
          have h1 : (j + 1) % 3 = 2 := by omega
          have h2 : (j + 1 + 1) / 3 = (j + 1) / 3 + 1 := by omega
          have h4 : (j + 1) / 3 ≤ 101 := by omega
          have hj0 : j ≠ 0 := by omega
          unfold onS
          congr 1
          · rw [h1]; rfl
          · funext i
            unfold upd
            by_cases h0 : i = 0
            · subst h0
              simp only [if_true, hj0, if_false]
              rw [h2]
              simp
              omega
            · by_cases h3 : i = 1
              · subst h3; simp [hj0]
              · simp [h0, h3]
          · rw [h1]; simp
        rw [hs]
        rfl
      · have e : onS j = ⟨2, (onS j).c, false⟩ := by
          unfold onS
          simp only [h]
          simp
        have ho : opAt [(1, 1, 1), (3, 0, 1), (11, 0, 0)] (onS j) = (11, 0, 0) := by rw [e]; rfl
        rw [on_turn _ _ _ ho (by decide) (by decide), e, on_fail]
        have hs : (⟨2, (onS j).c, true⟩ : St) = onS (j + 1) := by
          have h1 : (j + 1) % 3 = 0 := by omega
          have h2 : (j + 1 + 1) / 3 = (j + 1) / 3 := by omega
          have hj0 : j ≠ 0 := by omega
          unfold onS
          congr 1
          · rw [h1]; simp
          · funext i
            by_cases h0 : i = 0
            · subst h0; simp [h2]
            · by_cases h3 : i = 1
              · subst h3; simp [hj0]
              · simp [h0, h3]
          · rw [h1]; simp
        rw [hs]
        rfl
end Go.Proofs.YteoemcekkcnplafDoor
