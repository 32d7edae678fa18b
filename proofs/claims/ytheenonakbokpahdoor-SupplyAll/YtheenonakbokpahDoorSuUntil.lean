/-
  Package supply: until of a row.
-/
import Derived.Test.YtheenonakbokpahDoorSuHas
namespace Go.Proofs.YtheenonakbokpahDoor
open Go.RowKit

set_option maxRecDepth 100000 in
set_option maxHeartbeats 2000000 in
theorem suuntil_any (P : Nat → Bool) (g n f t : Nat) (w : World) (hR : Rw w g n P) (hn : 0 < n) (hn2 : n ≤ 40) (hp : ∀ x, P (x + n) = P x) (hf : f ≤ 2000) (ht : t ≤ 100) (hsome : t ≠ 0 → 0 < cnR P 0 n) :
    Calls Tryd.prog 19 #[.slice (some ⟨g, 0, none⟩) n n, .int .i64 f, .int .i64 t] w fun e w' => ∃ s : Nat, e = .returned (.int .i64 (s : Nat)) ∧ s ≤ 4000 ∧ OneW P f t s ∧ w' = w := by
  have HH : Hid (∀ t : Nat, Calls Tryd.prog 31 #[.slice (some ⟨g, 0, none⟩) n n, .int .i64 t] w fun e w' => e = .returned (.bool (P t)) ∧ w' = w) := fun t => suhas_any P g n t w hR hn hn2 hp
  have hen : t ≤ cnR P f (t * n) := by
    by_cases h0 : t = 0
    · omega
    · have h2 := cn_frames hp f t 0
      rw [Nat.add_zero] at h2
      have h3 : t ≤ t * cnR P 0 n := Nat.le_mul_of_pos_right t (hsome h0)
      omega
  have hb : t * n ≤ 4000 := Nat.mul_le_mul ht hn2
  have hmul : (t : Int) * (n : Int) = ((t * n : Nat) : Int) := (Int.natCast_mul t n).symm
  have HEN : Hid (t ≤ cnR P f (t * n)) := hen
  obtain ⟨E, hE⟩ : ∃ E, E = t * n := ⟨_, rfl⟩
  rw [← hE] at HEN hb hmul
  clear hR hp hsome hen hE
  go_enter Tryd.func19, Tryd.ntmps19
  go_wp2
  go_loopw [8, 15] (fun s8 s15 wr => ∃ k : Nat, k ≤ E ∧ s15 = .int .i64 k ∧ (∃ c : Nat, s8 = .int .i64 c ∧ Hid (c = cnR P f k) ∧ c ≤ k) ∧ Hid (∀ x, x < k → cnR P f x < t) ∧ wr = w) (fun _ s15 _ => E - (intOf s15).toNat)
  case atStart => exact ⟨0, Nat.zero_le _, rfl, ⟨0, rfl, rfl, Nat.le_refl _⟩, fun x hx => by omega, rfl⟩
  case round =>
    obtain ⟨k, hk, rfl, ⟨c, rfl, HC, hc⟩, HX, rfl⟩ := hrel
    by_cases hkm : k < E
    · have hki : (k : Int) < (E : Int) := by omega
      cases hct : ((c : Int) == (t : Int)) with
      | true =>
        have HO : Hid (OneW P f t k) := ⟨by have := eq_of_beq hct; have := HC.out; omega, HX.out⟩
        clear HH
        go_wp2
        go_ret
        exact ⟨k, rfl, by omega, HO.out, rfl⟩
      | false =>
        have hct' : ¬ (c = t) := fun e => by rw [e] at hct; simp at hct
        have hclt : c < t := by
          have h1 := HC.out
          by_cases hk0 : k = 0
          · subst hk0
            have : cnR P f 0 = 0 := rfl
            omega
          · have h2 := HX.out (k - 1) (by omega)
            have h3 := (cn_step P f (k - 1)).2
            rw [show k - 1 + 1 = k by omega] at h3
            omega
        have HX2 : Hid (∀ x, x < k + 1 → cnR P f x < t) := fun x hx => by
          by_cases e : x = k
          · subst e; have := HC.out; omega
          · exact HX.out x (by omega)
        clear HX hct'
        have hq := HH.out (f + k)
        rw [show ((f + k : Nat) : Int) = (f : Int) + (k : Int) by omega] at hq
        have hs : cnR P f (k + 1) = cnR P f k + if P (f + k) = true then 1 else 0 := rfl
        cases hb2 : P (f + k) with
        | true =>
          rw [hb2, if_pos rfl, ← HC.out] at hs
          rw [hb2] at hq
          have HS : Hid (cnR P f (k + 1) = c + 1) := hs
          clear hs hb2
          go_wp2_with (go_at_call 31; refine hq.mono ?_; rintro e w1 ⟨rfl, rfl⟩; clear hq)
          go_roundw
          case rel => exact ⟨k + 1, by omega, by go_num, ⟨c + 1, by go_num, HS.out.symm, by omega⟩, HX2, by trivial⟩
          case measure => simp [intOf]; omega
        | false =>
          rw [hb2, if_neg (by simp), Nat.add_zero, ← HC.out] at hs
          rw [hb2] at hq
          have HS : Hid (cnR P f (k + 1) = c) := hs
          clear hs hb2
          go_wp2_with (go_at_call 31; refine hq.mono ?_; rintro e w1 ⟨rfl, rfl⟩; clear hq)
          go_roundw
          case rel => exact ⟨k + 1, by omega, by go_num, ⟨c, by trivial, HS.out.symm, by omega⟩, HX2, by trivial⟩
          case measure => simp [intOf]; omega
    · obtain rfl : k = E := by omega
      clear HH
      go_wp2
      go_ret
      exact ⟨k, rfl, by omega, ⟨HEN.out, HX.out⟩, rfl⟩
end Go.Proofs.YtheenonakbokpahDoor
