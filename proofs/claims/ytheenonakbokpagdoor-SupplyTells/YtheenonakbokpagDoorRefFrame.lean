/-
  The document's Who (frameref1): who has a tick.
-/
import Derived.Test.YtheenonakbokpagDoorFBase
import Derived.Deep.QuietTactic
import Derived.BigQuiet
import Derived.WalkSmall
namespace Go.Proofs.YtheenonakbokpagDoor
open Go.RowKit

set_option maxRecDepth 1000000 in
set_option maxHeartbeats 4000000 in
theorem refwho_some (n : Int) (l : List S3) (b off cap : Nat) (t : Int) (w : World) (hn0 : 1 ≤ n) (hn1 : n ≤ 40) (ht : 0 ≤ t) (hlen : l.length ≤ 12) (hlt : b < w.heap.size) (hc : SpC w b off l) :
    Calls Tryd.prog 29 #[.int .i64 n, .slice (some ⟨b, off, none⟩) l.length cap, .int .i64 t] w fun e w' => e = .returned (.int .i64 (hold l (t % n))) ∧ Below w.heap.size w w' := by
  have hn' : ¬ n = 0 := by omega
  go_enter Tryd.func29, Tryd.ntmps29
  go_wp2
  go_loopw [7] (fun i wr => ∃ k : Nat, k ≤ l.length ∧ i = .int .i64 k ∧ Hid (hold l (t % n) = hold (l.drop k) (t % n)) ∧ Below w.heap.size w wr) (fun i _ => l.length - (intOf i).toNat)
  case atStart => exact ⟨0, Nat.zero_le _, rfl, by show _ = _; simp, Below.refl _ _⟩
  case round =>
    obtain ⟨k, hk, rfl, HS, hb⟩ := hrel
    by_cases hkl : k < l.length
    · obtain ⟨o, ho⟩ : ∃ o, l[k]? = some o := ⟨l[k], List.getElem?_eq_getElem hkl⟩
      have HD : Hid (hold l (t % n) = if hits (t % n) o = true then o.2.2 else hold (l.drop (k + 1)) (t % n)) := HS.out.trans (hold_drop ho)
      obtain ⟨c0, c1, c2⟩ := hc.below hb hlt k o ho
      clear ho HS
      have hki : (k : Int) < (l.length : Int) := by omega
      by_cases h1 : o.1 ≤ t % n
      · by_cases h2 : t % n < o.2.1
        · have HF : Hid (hold l (t % n) = o.2.2) := by show _ = _; rw [HD.out, if_pos (by simp [hits, h1, h2])]
          have h1' : decide (o.1 ≤ t % n) = true := by simpa using h1
          have h2' : decide (t % n < o.2.1) = true := by simpa using h2
          clear HD
          go_wp2
          go_quiet (fail)
          go_wp2
          go_ret
          exact ⟨retI HF.out.symm, below_drewN hb _⟩
        · have HF : Hid (hold l (t % n) = hold (l.drop (k + 1)) (t % n)) := by show _ = _; rw [HD.out, if_neg (by simp [hits, h2])]
          have h1' : decide (o.1 ≤ t % n) = true := by simpa using h1
          have h2' : decide (t % n < o.2.1) = false := by simpa using h2
          clear HD
          go_wp2
          go_quiet (fail)
          go_wp2
          go_roundw
          case rel => exact ⟨k + 1, by omega, by go_num, HF.out, below_drewN hb _⟩
          case measure => simp [intOf]; omega
      · have HF : Hid (hold l (t % n) = hold (l.drop (k + 1)) (t % n)) := by show _ = _; rw [HD.out, if_neg (by simp [hits, h1])]
        have h1' : decide (o.1 ≤ t % n) = false := by simpa using h1
        clear HD
        go_wp2
        go_quiet (fail)
        go_wp2
        go_roundw
        case rel => exact ⟨k + 1, by omega, by go_num, HF.out, below_drewN hb _⟩
        case measure => simp [intOf]; omega
    · obtain rfl : k = l.length := by omega
      have HF : Hid (hold l (t % n) = -1) := by show _ = _; rw [HS.out, List.drop_length]; rfl
      clear HS
      go_wp2
      go_ret
      exact ⟨retI HF.out.symm, hb⟩
set_option maxRecDepth 100000 in
set_option maxHeartbeats 2000000 in
theorem refwho_nil (n : Int) (ao : Option Addr) (cap : Nat) (t : Int) (w : World) :
    Calls Tryd.prog 29 #[.int .i64 n, .slice ao 0 cap, .int .i64 t] w fun e w' => e = .returned (.int .i64 (-1)) ∧ Below w.heap.size w w' := by
  go_enter Tryd.func29, Tryd.ntmps29
  go_wp2
  refine wp_loop_rounds 1 ?_
  rw [rounds_succ]
  go_wp2
  go_ret
  exact ⟨rfl, Below.refl _ _⟩
theorem refwho_any (n : Int) (l : List S3) (v : Value) (t : Int) (w : World) (hl : Sps w v l) (hn0 : 1 ≤ n) (hn1 : n ≤ 40) (ht : 0 ≤ t) (hlen : l.length ≤ 12) :
    Calls Tryd.prog 29 #[.int .i64 n, v, .int .i64 t] w fun e w' => e = .returned (.int .i64 (hold l (t % n))) ∧ Below w.heap.size w w' := by
  rcases hl with ⟨rfl, ao, cap, rfl⟩ | ⟨b, off, cap, rfl, _, hlt, hc⟩
  · exact refwho_nil n ao cap t w
  · exact refwho_some n l b off cap t w hn0 hn1 ht hlen hlt hc
end Go.Proofs.YtheenonakbokpagDoor
