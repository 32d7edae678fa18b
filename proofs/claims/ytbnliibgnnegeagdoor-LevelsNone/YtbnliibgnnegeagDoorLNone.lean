/-
  The law LevelsNone, of what package levels promises.
-/
import Derived.Test.YtbnliibgnnegeagDoorLevCL
import Derived.Test.YtbnliibgnnegeagDoorLevCR
import Derived.Test.YtbnliibgnnegeagDoorLevCA
import Derived.Deep.CutRange
namespace Go.Proofs.YtbnliibgnnegeagDoor
open Go.RowKit

theorem wrs_nil (W : World) : Wrs W (.slice none 0 0) [] := Or.inl ⟨rfl, _, _, rfl⟩
theorem ways_none : ∀ i, i < 5 → ∀ k, k < 5 → way [] i k = decide (i = k) := by decide +kernel
set_option maxRecDepth 100000 in
set_option maxHeartbeats 4000000 in
theorem lnone_of {G : World → Prop} (hall : ∀ w w', G w → Below w.heap.size w w' → G w') (hL : LevLeast G) (hR : LevRings G) (hA : LevApart G) (hE : ∀ (e : Int) (W : World), G W → Calls Tryd.prog 9 #[wErr e, .int .i64 e] W fun r w' => r = .returned (.bool true) ∧ Below W.heap.size W w')
    (a b : Int) (w : World) (hG : G w) : Calls Tryd.prog 4 #[.int .i64 a, .int .i64 b] w fun e w' => e = .returned (.bool true) ∧ Below w.heap.size w w' := by
  have q1 : Calls Tryd.prog 11 #[.slice none 0 0] w fun e w' => ∃ g o k, e = .returned (.tuple #[.slice (some ⟨g, o, none⟩) 5 k, .nilIface]) ∧ g < w'.heap.size ∧ w'.cell? ⟨g, o + 3, none⟩ = some (.int .i64 0) ∧ Below w.heap.size w w' := by
    refine (hL [] _ w hG (wrs_nil w)).mono ?_
    rintro e w' ⟨u, rfl, hu, hb⟩
    rw [show levsE [] = [0, 0, 0, 0, 0] by decide +kernel] at hu
    obtain ⟨g, o, k, rfl, hlt, _, _, _, h3, _⟩ := lvs_five hu
    exact ⟨g, o, k, rfl, hlt, h3, hb⟩
  have HR : Hid (∀ W, Below w.heap.size w W → Calls Tryd.prog 8 #[.slice none 0 0] W fun e w' => ∃ g o k ua uc, e = .returned (.tuple #[.slice (some ⟨g, o, none⟩) 5 k, .nilIface]) ∧ w'.cell? ⟨g, o + 4, none⟩ = some (.slice ua 1 uc) ∧ Below W.heap.size W w') := fun W hb => by
    refine (hR [] _ W (hall _ _ hG hb) (wrs_nil W)).mono ?_
    rintro e w' ⟨u, rfl, hu, hb⟩
    rw [show ringsE [] = [[0], [1], [2], [3], [4]] by decide +kernel] at hu
    obtain ⟨ao, cap, rfl⟩ := hu.form
    obtain ⟨g, o, ua, uc, l, rfl, _, hl, hc, _⟩ := Sts.at (i := 4) hu (by decide)
    obtain rfl := Option.some.inj hl
    exact ⟨g, o, cap, ua, uc, rfl, hc, hb⟩
  have HA : Hid (∀ W, Below w.heap.size w W → Calls Tryd.prog 14 #[.slice none 0 0, .int .i64 a, .int .i64 b] W fun e w' => e = .returned (.tuple #[.bool (apB [] a b), wErr (apE [] a b)]) ∧ Below W.heap.size W w') := fun W hb => hA [] _ a b W (hall _ _ hG hb) (wrs_nil W)
  have HE : Hid (∀ W, Below w.heap.size w W → Calls Tryd.prog 9 #[.iface 53 (.int .i64 1), .int .i64 1] W fun r w' => r = .returned (.bool true) ∧ Below W.heap.size W w') := fun W hb => hE 1 W (hall _ _ hG hb)
  clear hL hR hA hE
  by_cases hout : a < 0 ∨ 4 < a ∨ b < 0 ∨ 4 < b
  · have e1 : apE [] a b = 1 := by unfold apE; rw [if_pos (by decide), if_pos hout]
    have e2 : apB [] a b = false := by unfold apB; rw [e1]; rfl
    rw [e1, e2, show wErr 1 = .iface 53 (.int .i64 1) from rfl] at HA
    have hcase : decide (a < 0) = true ∨ (decide (a < 0) = false ∧ (decide (4 < a) = true ∨ (decide (4 < a) = false ∧ (decide (b < 0) = true ∨ (decide (b < 0) = false ∧ decide (4 < b) = true))))) := by
      simp only [decide_eq_true_eq, decide_eq_false_iff_not]
      omega
    clear e1 e2 hout
    rcases hcase with d1 | ⟨d1, d2 | ⟨d2, d3 | ⟨d3, d4⟩⟩⟩ <;>
    · go_enter Tryd.func4, Tryd.ntmps4
      go_wp2_with (first
        | (go_at_call 11; refine q1.mono ?_; rintro e w1 ⟨g, o, k, rfl, hlt, c3, b1⟩; clear q1; have q2 := HR.out w1 b1; clear HR)
        | (go_at_call 8; refine q2.mono ?_; rintro e w2 ⟨g2, o2, k2, ua, uc, rfl, c4, b2⟩; clear q2; replace c3 := (b2.cell (p := ⟨g, _, none⟩) hlt).trans c3; have B2 := b1.trans (b2.mono b1.size); have q3 := HA.out w2 B2; clear HA)
        | (go_at_call 14; refine q3.mono ?_; rintro e w3 ⟨rfl, b3⟩; clear q3; have B3 := B2.trans (b3.mono B2.size); have q4 := HE.out w3 B3; clear HE)
        | (go_at_call 9; refine q4.mono ?_; rintro e w4 ⟨rfl, b4⟩; clear q4; have B4 := B3.trans (b4.mono B3.size)))
      go_ret
      exact ⟨rfl, B4⟩
  · have e1 : apE [] a b = 0 := by unfold apE; rw [if_pos (by decide), if_neg hout]
    have e2 : apB [] a b = !decide (a = b) := by
      unfold apB
      rw [if_pos e1, ways_none _ (by omega) _ (by omega), ways_none _ (by omega) _ (by omega)]
      by_cases h : a = b
      · subst h; simp
      · have h' : ¬ a.toNat = b.toNat := by omega
        have h'' : ¬ b.toNat = a.toNat := by omega
        simp [h, h', h'']
    rw [e1, e2, show wErr 0 = .nilIface from rfl] at HA
    have d1 : decide (a < 0) = false := decide_eq_false (by omega)
    have d2 : decide (4 < a) = false := decide_eq_false (by omega)
    have d3 : decide (b < 0) = false := decide_eq_false (by omega)
    have d4 : decide (4 < b) = false := decide_eq_false (by omega)
    clear e1 e2 hout HE
    by_cases hab : a = b
    · subst hab
      rw [show (!decide (a = a)) = false by simp] at HA
      go_enter Tryd.func4, Tryd.ntmps4
      go_wp2_with (first
        | (go_at_call 11; refine q1.mono ?_; rintro e w1 ⟨g, o, k, rfl, hlt, c3, b1⟩; clear q1; have q2 := HR.out w1 b1; clear HR)
        | (go_at_call 8; refine q2.mono ?_; rintro e w2 ⟨g2, o2, k2, ua, uc, rfl, c4, b2⟩; clear q2; replace c3 := (b2.cell (p := ⟨g, _, none⟩) hlt).trans c3; have B2 := b1.trans (b2.mono b1.size); have q3 := HA.out w2 B2; clear HA)
        | (go_at_call 14; refine q3.mono ?_; rintro e w3 ⟨rfl, b3⟩; clear q3; have B3 := B2.trans (b3.mono B2.size)))
      go_ret
      exact ⟨by simp, B3⟩
    · rw [show (!decide (a = b)) = true by simp [hab]] at HA
      have hq : (a == b) = false := by simpa using hab
      have hq' : (a != b) = true := by simpa using hab
      go_enter Tryd.func4, Tryd.ntmps4
      go_wp2_with (first
        | (go_at_call 11; refine q1.mono ?_; rintro e w1 ⟨g, o, k, rfl, hlt, c3, b1⟩; clear q1; have q2 := HR.out w1 b1; clear HR)
        | (go_at_call 8; refine q2.mono ?_; rintro e w2 ⟨g2, o2, k2, ua, uc, rfl, c4, b2⟩; clear q2; replace c3 := (b2.cell (p := ⟨g, _, none⟩) hlt).trans c3; have B2 := b1.trans (b2.mono b1.size); have q3 := HA.out w2 B2; clear HA)
        | (go_at_call 14; refine q3.mono ?_; rintro e w3 ⟨rfl, b3⟩; clear q3; have B3 := B2.trans (b3.mono B2.size)))
      go_ret
      exact ⟨by simp, B3⟩
end Go.Proofs.YtbnliibgnnegeagDoor
