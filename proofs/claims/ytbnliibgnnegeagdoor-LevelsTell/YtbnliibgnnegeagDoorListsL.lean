/-
  framesame.Lists: of two that are the same.
-/
import Derived.Test.YtbnliibgnnegeagDoorStsL
import Derived.Test.YtbnliibgnnegeagDoorStpI
import Derived.Deep.RegionWith
import Derived.Deep.CutRange
namespace Go.Proofs.YtbnliibgnnegeagDoor
open Go.RowKit

theorem Sts.every {w w' : World} {v : Value} {ll : List (List Int)} (h : Sts w v ll) (hb : Below w.heap.size w w') : Sts w' v ll := by
  rcases h with h | ⟨b, off, cap, rfl, hlt, hc⟩
  · exact Or.inl h
  · refine Or.inr ⟨b, off, cap, rfl, Nat.lt_of_lt_of_le hlt hb.size, fun i l hl => ?_⟩
    obtain ⟨u, h1, h2⟩ := hc i l hl
    exact ⟨u, (hb.cell (p := ⟨b, _, none⟩) hlt).trans h1, h2.every hb⟩
set_option maxRecDepth 100000 in
set_option maxHeartbeats 4000000 in
theorem lists_any (va vb : Value) (ll : List (List Int)) (w : World) (ha : Sts w va ll) (hb : Sts w vb ll) (hl : ll.length ≤ 1000000) (hz : ∀ l ∈ ll, l.length ≤ 1000000) : Calls Tryd.prog 10 #[va, vb] w fun e w' => e = .returned (.bool true) ∧ Below w.heap.size w w' := by
  obtain ⟨ao, ac, rfl⟩ := ha.form
  obtain ⟨bo, bc, rfl⟩ := hb.form
  have HA : Hid (Sts w (.slice ao ll.length ac) ll) := ha
  have HB : Hid (Sts w (.slice bo ll.length bc) ll) := hb
  have HZ : Hid (∀ l ∈ ll, l.length ≤ 1000000) := hz
  clear ha hb hz
  go_enter Tryd.func10, Tryd.ntmps10
  go_wp2
  go_loopw [5] (fun i wr => ∃ k : Nat, k ≤ ll.length ∧ i = .int .i64 k ∧ Below w.heap.size w wr) (fun i _ => ll.length - (intOf i).toNat)
  case atStart => exact ⟨0, Nat.zero_le _, rfl, Below.refl _ _⟩
  case round =>
    obtain ⟨k, hk, rfl, hB⟩ := hrel
    by_cases hkl : k < ll.length
    · have hki : (k : Int) < (ll.length : Int) := by omega
      obtain ⟨b, off, ua, uc, l, rfl, hlt, hc, d0, h1⟩ := HA.out.at hkl
      obtain ⟨b', off', ua', uc', l', rfl, hlt', hc', d0', h1'⟩ := HB.out.at hkl
      obtain rfl : l = l' := Option.some.inj (hc.symm.trans hc')
      replace d0 := (hB.cell (p := ⟨b, _, none⟩) hlt).trans d0
      replace d0' := (hB.cell (p := ⟨b', _, none⟩) hlt').trans d0'
      have q1 := stp_ints ((h1.every hB).every (Below.refl _ _).drew) ((h1'.every hB).every (Below.refl _ _).drew) (HZ.out l (List.mem_of_getElem? hc))
      clear hc hc' h1 h1'
      go_wp2
      go_region_with (go_at_call 12; refine q1.mono ?_; rintro e w1 ⟨rfl, b1⟩)
      all_goals (
        go_wp2
        go_roundw
        case rel => exact ⟨k + 1, by omega, by go_num, hB.trans ((((Below.refl _ wr).drew).trans b1).mono hB.size)⟩
        case measure => simp [intOf]; omega)
    · have hki : decide ((k : Int) < (ll.length : Int)) = false := decide_eq_false (by omega)
      have hkn : decide (k < ll.length) = false := decide_eq_false (by omega)
      go_wp2
      go_ret
      exact ⟨rfl, hB⟩
end Go.Proofs.YtbnliibgnnegeagDoor
