/-
  CareOnM, COn: joined into one text.
-/
import Derived.Test.YtfconbblnmbnpafDoorJa8
import Derived.Deep.CutRange
import Derived.Deep.RegionWith
import Derived.BigQuiet
import Derived.RangeFuncNested
namespace Go.Proofs.YtfconbblnmbnpafDoor

def onP : PD := ⟨[[(1, 1, 1), (3, 0, 1), (11, 0, 0)]], 1, [(0, 1, 0)], []⟩
theorem onP_ok : plchk onP = 0 := by decide +kernel
/-- Its state behind so many steps that are no rest. -/
def onS (m : Nat) : St := ⟨if m % 3 = 0 then (if m = 0 then 0 else 2) else ((m % 3 : Nat) : Int), fun i => if i = 0 then (((m + 1) / 3 : Nat) : Int) else if i = 1 then (if m = 0 then 0 else 1) else 0, decide (0 < m ∧ m % 3 = 0)⟩
def onM (most j : Nat) : Nat := min j (3 * (most + 1))
def onD (most j : Nat) : CD := ⟨⟨[onS (onM most j)], [], j⟩, [(((onM most j - 1) / 3 : Nat) : Int)]⟩
theorem onS_new : onS 0 = stNew := by
  unfold onS stNew
  congr 1
  funext i
  by_cases h0 : i = 0
  · simp [h0]
  · by_cases h1 : i = 1 <;> simp [h0, h1]
theorem onD_new (most : Nat) : newC onP = onD most 0 := by
  unfold newC onD onM
  rw [Nat.zero_min, onS_new]
  rfl
theorem on_who (k : KD) : whoK onP k = 0 := by
  unfold whoK onP
  simp only
  rw [show k.time % 1 = 0 by omega]
  decide +kernel
/-- The room's turn. -/
theorem on_turn (s : St) (t : Int) (o : O3) (ho : opAt [(1, 1, 1), (3, 0, 1), (11, 0, 0)] s = o) (h8 : o.1 ≠ 8) (h9 : o.1 ≠ 9) : (turnK onP ⟨[s], [], t⟩ 0).1 = ⟨[stepF o s 3 0 false], [], t + 1⟩ := by
  have e1 : onP.code.getD 0 [] = [(1, 1, 1), (3, 0, 1), (11, 0, 0)] := rfl
  have e2 : ([s] : List St).getD 0 stNew = s := rfl
  have ht : takesB o s = false := by unfold takesB; simp [h9]
  have hs : sendF o s = -1 := by simp [sendF, sentF, h8]
  unfold turnK
  simp only [e1, e2, ho]
  unfold gotK linesT linesS
  rw [ht, hs]
  rfl
theorem on_tick (k : KD) : (tickK onP onP.spans k).1 = (turnK onP k 0).1 := by
  have := on_who k
  unfold whoK at this
  unfold tickK
  simp only [this]
  rw [if_neg (by omega)]
  rfl
theorem on_help (most j : Nat) : helpC onP [2] most (onD most j) = if 0 < onM most j ∧ onM most j % 3 = 0 ∧ (onM most j - 1) / 3 < most then ⟨⟨[⟨0, (onS (onM most j)).c, false⟩], [], j⟩, [(((onM most j - 1) / 3 : Nat) : Int) + 1]⟩ else onD most j := by
  have hw : whoK onP (onD most j).k = 0 := on_who _
  unfold helpC
  rw [hw]
  have e1 : (onD most j).k.rooms.getD 0 stNew = onS (onM most j) := rfl
  have e2 : (onD most j).ts.getD 0 0 = (((onM most j - 1) / 3 : Nat) : Int) := rfl
  have e3 : caresB [2] most (onD most j) 0 = decide (0 < onM most j ∧ onM most j % 3 = 0 ∧ (onM most j - 1) / 3 < most) := by
    unfold caresB
    rw [e1, e2]
    show (decide (0 < onM most j ∧ onM most j % 3 = 0) && (decide ((0 : Int) < 2) && decide ((((onM most j - 1) / 3 : Nat) : Int) < (most : Int)))) = _
    by_cases h1 : 0 < onM most j ∧ onM most j % 3 = 0
    · by_cases h2 : (onM most j - 1) / 3 < most
      · rw [decide_eq_true h1, decide_eq_true (show (((onM most j - 1) / 3 : Nat) : Int) < (most : Int) by omega), decide_eq_true (show 0 < onM most j ∧ onM most j % 3 = 0 ∧ (onM most j - 1) / 3 < most from ⟨h1.1, h1.2, h2⟩)]
        rfl
      · rw [decide_eq_true h1, decide_eq_false (show ¬ (((onM most j - 1) / 3 : Nat) : Int) < (most : Int) by omega), decide_eq_false (p := 0 < onM most j ∧ onM most j % 3 = 0 ∧ (onM most j - 1) / 3 < most) (fun e => h2 e.2.2)]
        rfl
    · rw [decide_eq_false h1, decide_eq_false (p := 0 < onM most j ∧ onM most j % 3 = 0 ∧ (onM most j - 1) / 3 < most) (fun e => h1 ⟨e.1, e.2.1⟩)]
      rfl
  rw [show (0 : Int).toNat = 0 from rfl, e3, e1, e2]
  by_cases hc : 0 < onM most j ∧ onM most j % 3 = 0 ∧ (onM most j - 1) / 3 < most
  · rw [if_pos ⟨Int.le_refl _, decide_eq_true hc⟩, if_pos hc]
    have hp : (onS (onM most j)).p = 2 := by
      unfold onS
      simp only
      rw [if_pos hc.2.1, if_neg (by omega)]
    have hh : helpS onP [2] 0 (onS (onM most j)) = ⟨0, (onS (onM most j)).c, false⟩ := by
      unfold helpS
      rw [hp]
      rfl
    rw [hh]
    rfl
  · rw [if_neg (fun e => hc (of_decide_eq_true e.2)), if_neg hc]
theorem on_set (c : Nat → Int) : stepF (1, 1, 1) ⟨0, c, false⟩ 3 0 false = ⟨1, upd c 1 1, false⟩ := rfl
theorem on_add (c : Nat → Int) : stepF (3, 0, 1) ⟨1, c, false⟩ 3 0 false = ⟨2, upd c 0 ((c 0 + c 1) % 1000), false⟩ := rfl
theorem on_fail (c : Nat → Int) : stepF (11, 0, 0) ⟨2, c, false⟩ 3 0 false = ⟨2, c, true⟩ := rfl
/-- IT GOES ON BEHIND IT. -/
theorem on_step (most j : Nat) (hm : most ≤ 100) : tickC onP [2] most (onD most j) = onD most (j + 1) := by
  unfold tickC
  rw [on_help]
  by_cases hc : 0 < onM most j ∧ onM most j % 3 = 0 ∧ (onM most j - 1) / 3 < most
  · rw [if_pos hc]
    have hj : onM most j = j := by unfold onM at hc ⊢; omega
    have hj1 : onM most (j + 1) = j + 1 := by unfold onM at hc ⊢; omega
    rw [hj] at hc ⊢
    rw [on_tick _, on_turn _ _ (1, 1, 1) rfl (by decide) (by decide), on_set]
    unfold onD
    rw [hj1]
    have hs : (⟨1, upd (onS j).c 1 1, false⟩ : St) = onS (j + 1) := by
      unfold onS
      have h1 : (j + 1) % 3 = 1 := by omega
      have h2 : (j + 1 + 1) / 3 = (j + 1) / 3 := by omega
      congr 1
      · rw [h1]; rfl
      · funext i
        unfold upd
        by_cases h0 : i = 0
        · subst h0; simp [h2]
        · by_cases h3 : i = 1
          · subst h3; simp
          · simp [h0, h3]
      · rw [h1]; simp
    have h5 : (((j - 1) / 3 : Nat) : Int) + 1 = (((j + 1 - 1) / 3 : Nat) : Int) := by
      have : (j - 1) / 3 + 1 = (j + 1 - 1) / 3 := by omega
      rw [← this]
      push_cast
      rfl
    rw [hs, h5]
    rfl
  · rw [if_neg hc]
    show CD.mk (tickK onP onP.spans ⟨[onS (onM most j)], [], (j : Int)⟩).1 [(((onM most j - 1) / 3 : Nat) : Int)] = _
    rw [on_tick _]
    by_cases hlast : 3 * (most + 1) ≤ j
    · have hj : onM most j = 3 * (most + 1) := by unfold onM; omega
      have hj1 : onM most (j + 1) = 3 * (most + 1) := by unfold onM; omega
      unfold onD
      rw [hj, hj1]
      have hp : (onS (3 * (most + 1))).p = 2 := by
        unfold onS
        simp only
        rw [if_pos (by omega), if_neg (by omega)]
      have hf : (onS (3 * (most + 1))).f = true := by
        unfold onS
        exact decide_eq_true (by omega)
      have ho : opAt [(1, 1, 1), (3, 0, 1), (11, 0, 0)] (onS (3 * (most + 1))) = (11, 0, 0) := by
        unfold opAt
        rw [hp]
        rfl
      rw [on_turn _ _ _ ho (by decide) (by decide)]
      have hs : stepF (11, 0, 0) (onS (3 * (most + 1))) 3 0 false = onS (3 * (most + 1)) := by
        unfold stepF
        rw [if_pos hf]
      rw [hs]
      rfl
    · have hj : onM most j = j := by unfold onM; omega
      have hj1 : onM most (j + 1) = j + 1 := by unfold onM; omega
      unfold onD
      rw [hj] at hc ⊢
      rw [hj1]
      have h3 : j = 0 ∨ j % 3 = 1 ∨ j % 3 = 2 := by omega
      have htm : (((j - 1) / 3 : Nat) : Int) = (((j + 1 - 1) / 3 : Nat) : Int) := by
        have : (j - 1) / 3 = (j + 1 - 1) / 3 := by omega
        rw [this]
      rw [htm]
      rcases h3 with h | h | h
      · subst h
        rw [onS_new, on_turn _ _ (1, 1, 1) rfl (by decide) (by decide)]
        have hs : stepF (1, 1, 1) stNew 3 0 false = onS (0 + 1) := by
          show (⟨1, upd (fun _ => 0) 1 1, false⟩ : St) = _
          unfold onS
          congr 1
          funext i
          unfold upd
          by_cases h0 : i = 0
          · subst h0; simp
          · by_cases h3 : i = 1 <;> simp [h0, h3]
        rw [hs]
        rfl
      · have e : onS j = ⟨1, (onS j).c, false⟩ := by
          unfold onS
          simp only [h]
          simp
        have ho : opAt [(1, 1, 1), (3, 0, 1), (11, 0, 0)] (onS j) = (3, 0, 1) := by rw [e]; rfl
        rw [on_turn _ _ _ ho (by decide) (by decide), e, on_add]
        have hs : (⟨2, upd (onS j).c 0 (((onS j).c 0 + (onS j).c 1) % 1000), false⟩ : St) = onS (j + 1) := by
          have h1 : (j + 1) % 3 = 2 := by omega
          have h2 : (j + 1 + 1) / 3 = (j + 1) / 3 + 1 := by omega
          have h4 : (j + 1) / 3 ≤ 101 := by omega
          have hj0 : j ≠ 0 := by omega
          unfold onS
          congr 1
          · rw [h1]; rfl
          · funext i
            unfold upd
            by_cases h0 : i = 0
            · subst h0
              simp only [if_true, hj0, if_false]
              rw [h2]
              simp
              omega
            · by_cases h3 : i = 1
              · subst h3; simp [hj0]
              · simp [h0, h3]
          · rw [h1]; simp
        rw [hs]
        rfl
      · have e : onS j = ⟨2, (onS j).c, false⟩ := by
          unfold onS
          simp only [h]
          simp
        have ho : opAt [(1, 1, 1), (3, 0, 1), (11, 0, 0)] (onS j) = (11, 0, 0) := by rw [e]; rfl
        rw [on_turn _ _ _ ho (by decide) (by decide), e, on_fail]
        have hs : (⟨2, (onS j).c, true⟩ : St) = onS (j + 1) := by
          have h1 : (j + 1) % 3 = 0 := by omega
          have h2 : (j + 1 + 1) / 3 = (j + 1) / 3 := by omega
          have hj0 : j ≠ 0 := by omega
          unfold onS
          congr 1
          · rw [h1]; simp
          · funext i
            by_cases h0 : i = 0
            · subst h0; simp [h2]
            · by_cases h3 : i = 1
              · subst h3; simp [hj0]
              · simp [h0, h3]
          · rw [h1]; simp
        rw [hs]
        rfl
end Go.Proofs.YtfconbblnmbnpafDoor
namespace Go.Proofs.YtfconbblnmbnpafDoor
open Go.RowKit

/-- The law's plan lies in the world. -/
theorem onP_pln (W : World) (n : Nat) (hn : n = W.heap.size) : Pln (((W.alloc (.cells #[.int .i64 1, .int .i64 1, .int .i64 1, .int .i64 3, .int .i64 0, .int .i64 1, .int .i64 11, .int .i64 0, .int .i64 0] 57)).alloc (.cells #[.slice (some ⟨n, 0, none⟩) 3 3] 36)).alloc (.cells #[.int .i64 0, .int .i64 1, .int .i64 0] 59)) (.slice (some ⟨n + 1, 0, none⟩) 1 1) (.slice (some ⟨n + 2, 0, none⟩) 1 1) (.slice none 0 0) onP := by
  subst hn
  refine ⟨Or.inr ⟨_, 0, 1, rfl, Nat.le_refl _, by simp, fun i c hi => ?_⟩, Or.inr ⟨_, 0, 1, rfl, Nat.le_refl _, by simp, fun i s hi => ?_⟩, Or.inl ⟨rfl, _, _, rfl⟩⟩
  · match i, hi with
    | 0, hi =>
      simp [onP] at hi
      subst hi
      refine ⟨.slice (some ⟨W.heap.size, 0, none⟩) 3 3, by simp [go_sem], Or.inr ⟨W.heap.size, 0, 3, rfl, by simp; omega, fun j o ho => ?_⟩⟩
      match j, ho with
      | 0, ho => simp at ho; subst ho; simp [go_sem]
      | 1, ho => simp at ho; subst ho; simp [go_sem]
      | 2, ho => simp at ho; subst ho; simp [go_sem]
      | j + 3, ho => simp at ho
    | i + 1, hi => simp [onP] at hi
  · match i, hi with
    | 0, hi => simp [onP] at hi; subst hi; simp [go_sem]
    | i + 1, hi => simp [onP] at hi
theorem on_carE {most : Int} (h : 0 ≤ most ∧ most ≤ 100) : carE onP [2] most = 0 := by
  unfold carE
  rw [if_pos onP_ok, if_pos (show [(2 : Int)].length = onP.code.length from rfl), if_neg (by decide), if_neg (by omega)]
theorem on_carE_no {most : Int} (h : most < 0 ∨ 100 < most) : carE onP [2] most = 1 := by
  unfold carE
  rw [if_pos onP_ok, if_pos (show [(2 : Int)].length = onP.code.length from rfl), if_neg (by decide), if_pos h]
theorem onD_ok (most : Nat) (h : most ≤ 100) : ∀ j, COk onP [2] most (onD most j)
  | 0 => by rw [← onD_new]; exact newC_ok (on_carE (by omega))
  | j + 1 => by rw [← on_step most j h]; exact tickC_ok onP_ok (onD_ok most h j)
set_option maxRecDepth 100000 in
set_option maxHeartbeats 8000000 in
theorem con_of {G : World → Prop} (C : CarC G) (most n : Int) (w : World) (hG : G w) :
    Calls Tryd.prog 5 #[.int .i64 most, .int .i64 n] w fun e w' => e = .returned (.bool true) ∧ Below w.heap.size w w' := by
  have HC : Hid (G w) := hG
  have hpl := onP_pln w w.heap.size rfl
  have hB0 : Below w.heap.size w (((w.alloc (.cells #[.int .i64 1, .int .i64 1, .int .i64 1, .int .i64 3, .int .i64 0, .int .i64 1, .int .i64 11, .int .i64 0, .int .i64 0] 57)).alloc (.cells #[.slice (some ⟨w.heap.size, 0, none⟩) 3 3] 36)).alloc (.cells #[.int .i64 0, .int .i64 1, .int .i64 0] 59)) := (((Below.refl _ _).alloc (Nat.le_refl _) _).alloc (by simp) _).alloc (by simp; omega) _
  clear hG
  go_enter Tryd.func5, Tryd.ntmps5
  go_upto_region 2 with fail
  have hsB : (((w.alloc (.cells #[.int .i64 1, .int .i64 1, .int .i64 1, .int .i64 3, .int .i64 0, .int .i64 1, .int .i64 11, .int .i64 0, .int .i64 0] 57)).alloc (.cells #[.slice (some ⟨w.heap.size, 0, none⟩) 3 3] 36)).alloc (.cells #[.int .i64 0, .int .i64 1, .int .i64 0] 59)).heap.size = w.heap.size + 3 := by simp
  generalize ((w.alloc (.cells #[.int .i64 1, .int .i64 1, .int .i64 1, .int .i64 3, .int .i64 0, .int .i64 1, .int .i64 11, .int .i64 0, .int .i64 0] 57)).alloc (.cells #[.slice (some ⟨w.heap.size, 0, none⟩) 3 3] 36)).alloc (.cells #[.int .i64 0, .int .i64 1, .int .i64 0] 59) = w0 at hpl hB0 hsB ⊢
  have hB5 : Below w0.heap.size w0 ((w0.alloc (.cells #[.slice (some ⟨w.heap.size + 1, 0, none⟩) 1 1, .int .i64 1, .slice (some ⟨w.heap.size + 2, 0, none⟩) 1 1, .slice none 0 0] 26)).alloc (.cells #[.int .i64 2] 3)) := ((Below.refl _ _).alloc (Nat.le_refl _) _).alloc (by simp) _
  have hS5 : Stp ((w0.alloc (.cells #[.slice (some ⟨w.heap.size + 1, 0, none⟩) 1 1, .int .i64 1, .slice (some ⟨w.heap.size + 2, 0, none⟩) 1 1, .slice none 0 0] 26)).alloc (.cells #[.int .i64 2] 3)) (.slice (some ⟨w.heap.size + 4, 0, none⟩) 1 1) [2] := by
    refine Or.inr ⟨w.heap.size + 4, 0, 1, rfl, by simp; omega, fun i x hi => ?_⟩
    match i, hi with
    | 0, hi =>
      simp at hi
      subst hi
      have e : w.heap.size + 4 = (w0.alloc (.cells #[.slice (some ⟨w.heap.size + 1, 0, none⟩) 1 1, .int .i64 1, .slice (some ⟨w.heap.size + 2, 0, none⟩) 1 1, .slice none 0 0] 26)).heap.size := by simp; omega
      rw [e]
      simp [go_sem]
    | i + 1, hi => simp at hi
  have hb5 := hB0.trans (hB5.mono hB0.size)
  have hG5 : Hid (G ((w0.alloc (.cells #[.slice (some ⟨w.heap.size + 1, 0, none⟩) 1 1, .int .i64 1, .slice (some ⟨w.heap.size + 2, 0, none⟩) 1 1, .slice none 0 0] 26)).alloc (.cells #[.int .i64 2] 3))) := C.all _ _ HC.out hb5
  by_cases hm : 0 ≤ most ∧ most ≤ 100
  case neg =>
    have hcase : decide (most < 0) = true ∨ (decide (most < 0) = false ∧ decide (100 < most) = true) := by
      by_cases h : most < 0
      · exact Or.inl (decide_eq_true h)
      · exact Or.inr ⟨decide_eq_false h, decide_eq_true (by omega)⟩
    have HN : Hid (Calls Tryd.prog 15 #[.agg #[.slice (some ⟨w.heap.size + 1, 0, none⟩) 1 1, .int .i64 1, .slice (some ⟨w.heap.size + 2, 0, none⟩) 1 1, .slice none 0 0], .slice (some ⟨w.heap.size + 4, 0, none⟩) 1 1, .int .i64 most] ((w0.alloc (.cells #[.slice (some ⟨w.heap.size + 1, 0, none⟩) 1 1, .int .i64 1, .slice (some ⟨w.heap.size + 2, 0, none⟩) 1 1, .slice none 0 0] 26)).alloc (.cells #[.int .i64 2] 3)) fun e w' => ∃ x, e = .returned (.tuple #[.pointer x, .iface 87 (.int .i64 1)]) ∧ Below ((w0.alloc (.cells #[.slice (some ⟨w.heap.size + 1, 0, none⟩) 1 1, .int .i64 1, .slice (some ⟨w.heap.size + 2, 0, none⟩) 1 1, .slice none 0 0] 26)).alloc (.cells #[.int .i64 2] 3)).heap.size ((w0.alloc (.cells #[.slice (some ⟨w.heap.size + 1, 0, none⟩) 1 1, .int .i64 1, .slice (some ⟨w.heap.size + 2, 0, none⟩) 1 1, .slice none 0 0] 26)).alloc (.cells #[.int .i64 2] 3)) w') := by
      have he := on_carE_no (most := most) (by omega)
      have := C.no onP _ _ _ _ [2] most _ hG5.out (hpl.all hB5) hS5 (by rw [he]; decide)
      rw [he] at this
      exact this
    clear hm
    rcases hcase with h1 | ⟨h1, h2⟩
    · go_wp2_with (go_at_call 15; refine HN.out.mono ?_; rintro e w6 ⟨x, rfl, b6⟩)
      go_ret
      exact ⟨rfl, hb5.trans (b6.mono hb5.size)⟩
    · go_wp2_with (go_at_call 15; refine HN.out.mono ?_; rintro e w6 ⟨x, rfl, b6⟩)
      go_ret
      exact ⟨rfl, hb5.trans (b6.mono hb5.size)⟩
  obtain ⟨mm, rfl⟩ : ∃ k : Nat, most = k := ⟨most.toNat, by omega⟩
  have hmm : mm ≤ 100 := by omega
  have HN : Hid (Calls Tryd.prog 15 #[.agg #[.slice (some ⟨w.heap.size + 1, 0, none⟩) 1 1, .int .i64 1, .slice (some ⟨w.heap.size + 2, 0, none⟩) 1 1, .slice none 0 0], .slice (some ⟨w.heap.size + 4, 0, none⟩) 1 1, .int .i64 mm] ((w0.alloc (.cells #[.slice (some ⟨w.heap.size + 1, 0, none⟩) 1 1, .int .i64 1, .slice (some ⟨w.heap.size + 2, 0, none⟩) 1 1, .slice none 0 0] 26)).alloc (.cells #[.int .i64 2] 3)) fun e w' => ∃ cb F, e = .returned (.tuple #[.pointer (some ⟨cb, 0, none⟩), .nilIface]) ∧ C.K ((w0.alloc (.cells #[.slice (some ⟨w.heap.size + 1, 0, none⟩) 1 1, .int .i64 1, .slice (some ⟨w.heap.size + 2, 0, none⟩) 1 1, .slice none 0 0] 26)).alloc (.cells #[.int .i64 2] 3)) w' onP [2] mm (onD mm 0) cb F) := by
    have := C.new onP _ _ _ _ [2] mm _ hG5.out (hpl.all hB5) hS5 (on_carE hm)
    rw [onD_new mm] at this
    exact this
  clear hm
  by_cases hn : n < 0 ∨ 300 < n
  case pos =>
    have hcase : decide (n < 0) = true ∨ (decide (n < 0) = false ∧ decide (300 < n) = true) := by
      by_cases h : n < 0
      · exact Or.inl (decide_eq_true h)
      · exact Or.inr ⟨decide_eq_false h, decide_eq_true (hn.resolve_left h)⟩
    clear hn
    rcases hcase with h1 | ⟨h1, h2⟩
    · go_wp2_with (go_at_call 15; refine HN.out.mono ?_; rintro e w6 ⟨cb, F, rfl, hK⟩)
      go_ret
      exact ⟨rfl, hb5.trans ((C.since hK).mono hb5.size)⟩
    · go_wp2_with (go_at_call 15; refine HN.out.mono ?_; rintro e w6 ⟨cb, F, rfl, hK⟩)
      go_ret
      exact ⟨rfl, hb5.trans ((C.since hK).mono hb5.size)⟩
  obtain ⟨nn, rfl⟩ : ∃ k : Nat, n = k := ⟨n.toNat, by omega⟩
  have hnn : nn ≤ 300 := by omega
  have h1 : decide ((nn : Int) < 0) = false := decide_eq_false (by omega)
  have h2 : decide (300 < (nn : Int)) = false := decide_eq_false (by omega)
  clear hn
  have HE : Hid (∀ j, COk onP [2] mm (onD mm j)) := onD_ok mm hmm
  have HCE : Hid (carE onP [2] mm = 0) := on_carE (by omega)
  go_upto_region 5 with (go_at_call 15; refine HN.out.mono ?_; rintro e w6 ⟨cb, F, rfl, hK⟩)
  clear HN hpl hS5 hB5 hB0
  generalize ((w0.alloc (.cells #[.slice (some ⟨w.heap.size + 1, 0, none⟩) 1 1, .int .i64 1, .slice (some ⟨w.heap.size + 2, 0, none⟩) 1 1, .slice none 0 0] 26)).alloc (.cells #[.int .i64 2] 3)) = W5x at *
  go_wp2_with fail
  go_loopw [8] (fun s8 wr => ∃ (i : Nat) (F : List Nat), i ≤ nn ∧ s8 = .int .i64 i ∧ C.K W5x wr onP [2] mm (onD mm i) cb F) (fun s _ => nn - (intOf s).toNat)
  case atStart => exact ⟨0, F, Nat.zero_le _, rfl, hK⟩
  case round =>
    clear hK
    obtain ⟨i, F', hin, rfl, hK⟩ := hrel
    by_cases hil : i < nn
    · have hii : (i : Int) < (nn : Int) := by omega
      have HS : Hid (Calls Tryd.prog 16 #[.pointer (some ⟨cb, 0, none⟩)] wr fun e w' => (∃ a b c d, e = .returned (.agg #[.int .i64 a, .int .i64 b, .int .i64 c, .int .i64 d])) ∧ ∃ F', C.K W5x w' onP [2] mm (onD mm (i + 1)) cb F') := by
        refine (C.tick hG5.out hK HCE.out (HE.out i) (by show (i : Int) < _; omega)).mono ?_
        rintro e w' ⟨rfl, F2, h3, _, _⟩
        rw [on_step mm i hmm] at h3
        exact ⟨⟨_, _, _, _, rfl⟩, F2, h3⟩
      clear hK
      go_wp2_with (go_at_call 16; refine HS.out.mono ?_; rintro e w3 ⟨⟨ea, eb, ec, ed, rfl⟩, F3, hK3⟩)
      go_roundw
      case rel => exact ⟨i + 1, F3, by omega, by go_num, hK3⟩
      case measure => simp [intOf]; omega
    · obtain rfl : i = nn := by omega
      have hii : decide ((i : Int) < (i : Int)) = false := decide_eq_false (by omega)
      have hin' : decide (i < i) = false := decide_eq_false (by omega)
      obtain ⟨want, hwant⟩ : ∃ x : Int, (((onM mm i + 1) / 3 : Nat) : Int) = x := ⟨_, rfl⟩
      obtain ⟨times, htimes⟩ : ∃ x : Int, (((onM mm i - 1) / 3 : Nat) : Int) = x := ⟨_, rfl⟩
      have HSt : Hid (Calls Tryd.prog 21 #[.pointer (some ⟨cb, 0, none⟩), .int .i64 0] wr fun e w' => (∃ s : St, s.c 0 = want ∧ e = .returned (.tuple #[.agg #[.int .i64 s.p, .int .i64 (s.c 0), .int .i64 (s.c 1), .int .i64 (s.c 2), .int .i64 (s.c 3), .int .i64 (s.c 4), .int .i64 (s.c 5), .bool s.f], .nilIface])) ∧ Below wr.heap.size wr w') := by
        refine (C.state 0 hK (HE.out i) HCE.out).mono ?_
        rintro e w' ⟨rfl, h3⟩
        exact ⟨⟨onS (onM mm i), hwant, rfl⟩, h3⟩
      have HTm : Hid (∀ W, Below wr.heap.size wr W → Calls Tryd.prog 17 #[.pointer (some ⟨cb, 0, none⟩), .int .i64 0] W fun e w' => e = .returned (.tuple #[.int .i64 times, .nilIface]) ∧ Below W.heap.size W w') := fun W hb => by
        refine (C.times 0 (C.frame hK (KTouch.of (M := []) hb) (by simp)) (HE.out i) HCE.out).mono ?_
        rintro e w' ⟨rfl, h3⟩
        rw [← htimes]
        exact ⟨rfl, h3⟩
      have hbw := hb5.trans ((C.since hK).mono hb5.size)
      have hw2 : want = if (mm : Int) + 1 < ((i : Int) + 1) / 3 then (mm : Int) + 1 else ((i : Int) + 1) / 3 := by
        rw [← hwant]
        unfold onM
        split <;> omega
      have ht2 : i ≠ 0 → times = if (mm : Int) < ((i : Int) - 1) / 3 then (mm : Int) else ((i : Int) - 1) / 3 := fun h0 => by
        rw [← htimes]
        unfold onM
        split <;> omega
      have ht0 : i = 0 → times = 0 := fun h0 => by
        rw [← htimes]
        unfold onM
        omega
      clear hK hwant htimes
      have hfin : ∀ w3 w4 : World, Below wr.heap.size wr w3 → Below w3.heap.size w3 w4 → Below w.heap.size w w4 := fun w3 w4 h3 h4 => (hbw.trans (h3.mono hbw.size)).trans (h4.mono (Nat.le_trans hbw.size h3.size))
      cases i with
      | zero =>
        obtain rfl : times = 0 := ht0 rfl
        have hw3 : want = 0 := by
          rw [hw2]
          split <;> omega
        subst hw3
        have hq1 : decide ((mm : Int) + 1 < 0) = false := decide_eq_false (by omega)
        have hq2 : decide ((mm : Int) < 0) = false := decide_eq_false (by omega)
        clear hw2 ht2 ht0
        go_wp2_with (first
          | (go_at_call 21; refine HSt.out.mono ?_; rintro e w3 ⟨⟨s, hs0, rfl⟩, b3⟩; have b3' : Below wr.heap.size wr (w3.alloc (.cells #[.int .i64 s.p, .int .i64 0, .int .i64 (s.c 1), .int .i64 (s.c 2), .int .i64 (s.c 3), .int .i64 (s.c 4), .int .i64 (s.c 5), .bool s.f] 39)) := b3.alloc b3.size _)
          | (go_at_call 17; refine (HTm.out _ b3').mono ?_; rintro e w4 ⟨rfl, b4⟩; have m0 : w4.cell? ⟨w3.heap.size, 1, none⟩ = some (.int .i64 0) := (b4.cell (p := ⟨w3.heap.size, 1, none⟩) (by simp)).trans (by simp)))
        go_ret
        exact ⟨rfl, hfin _ _ b3' b4⟩
      | succ j =>
        replace ht2 := ht2 (by omega)
        clear ht0
        generalize hij : j + 1 = i at *
        have hi0 : (i : Int) ≠ 0 := by omega
        have hi1 : ((i : Int) == 0) = false := by simpa using hi0
        have hi2 : 0 ≤ (i : Int) - 1 := by omega
        clear hij
        by_cases hc1 : (mm : Int) + 1 < ((i : Int) + 1) / 3
        · have hd1 : decide ((mm : Int) + 1 < ((i : Int) + 1) / 3) = true := decide_eq_true hc1
          rw [if_pos hc1] at hw2
          subst hw2
          by_cases hc2 : (mm : Int) < ((i : Int) - 1) / 3
          · have hd2 : decide ((mm : Int) < ((i : Int) - 1) / 3) = true := decide_eq_true hc2
            rw [if_pos hc2] at ht2
            subst ht2
            go_wp2_with (first
              | (go_at_call 21; refine HSt.out.mono ?_; rintro e w3 ⟨⟨s, hs0, rfl⟩, b3⟩; have b3' : Below wr.heap.size wr (w3.alloc (.cells #[.int .i64 s.p, .int .i64 ((mm : Int) + 1), .int .i64 (s.c 1), .int .i64 (s.c 2), .int .i64 (s.c 3), .int .i64 (s.c 4), .int .i64 (s.c 5), .bool s.f] 39)) := b3.alloc b3.size _)
              | (go_at_call 17; refine (HTm.out _ b3').mono ?_; rintro e w4 ⟨rfl, b4⟩; have m0 : w4.cell? ⟨w3.heap.size, 1, none⟩ = some (.int .i64 ((mm : Int) + 1)) := (b4.cell (p := ⟨w3.heap.size, 1, none⟩) (by simp)).trans (by simp)))
            go_ret
            exact ⟨rfl, hfin _ _ b3' b4⟩
          · exfalso
            omega
        · have hd1 : decide ((mm : Int) + 1 < ((i : Int) + 1) / 3) = false := decide_eq_false hc1
          rw [if_neg hc1] at hw2
          subst hw2
          by_cases hc2 : (mm : Int) < ((i : Int) - 1) / 3
          · have hd2 : decide ((mm : Int) < ((i : Int) - 1) / 3) = true := decide_eq_true hc2
            rw [if_pos hc2] at ht2
            subst ht2
            go_wp2_with (first
              | (go_at_call 21; refine HSt.out.mono ?_; rintro e w3 ⟨⟨s, hs0, rfl⟩, b3⟩; have b3' : Below wr.heap.size wr (w3.alloc (.cells #[.int .i64 s.p, .int .i64 (((i : Int) + 1) / 3), .int .i64 (s.c 1), .int .i64 (s.c 2), .int .i64 (s.c 3), .int .i64 (s.c 4), .int .i64 (s.c 5), .bool s.f] 39)) := b3.alloc b3.size _)
              | (go_at_call 17; refine (HTm.out _ b3').mono ?_; rintro e w4 ⟨rfl, b4⟩; have m0 : w4.cell? ⟨w3.heap.size, 1, none⟩ = some (.int .i64 (((i : Int) + 1) / 3)) := (b4.cell (p := ⟨w3.heap.size, 1, none⟩) (by simp)).trans (by simp)))
            go_ret
            exact ⟨rfl, hfin _ _ b3' b4⟩
          · have hd2 : decide ((mm : Int) < ((i : Int) - 1) / 3) = false := decide_eq_false hc2
            rw [if_neg hc2] at ht2
            subst ht2
            go_wp2_with (first
              | (go_at_call 21; refine HSt.out.mono ?_; rintro e w3 ⟨⟨s, hs0, rfl⟩, b3⟩; have b3' : Below wr.heap.size wr (w3.alloc (.cells #[.int .i64 s.p, .int .i64 (((i : Int) + 1) / 3), .int .i64 (s.c 1), .int .i64 (s.c 2), .int .i64 (s.c 3), .int .i64 (s.c 4), .int .i64 (s.c 5), .bool s.f] 39)) := b3.alloc b3.size _)
              | (go_at_call 17; refine (HTm.out _ b3').mono ?_; rintro e w4 ⟨rfl, b4⟩; have m0 : w4.cell? ⟨w3.heap.size, 1, none⟩ = some (.int .i64 (((i : Int) + 1) / 3)) := (b4.cell (p := ⟨w3.heap.size, 1, none⟩) (by simp)).trans (by simp)))
            go_ret
            exact ⟨rfl, hfin _ _ b3' b4⟩
end Go.Proofs.YtfconbblnmbnpafDoor
