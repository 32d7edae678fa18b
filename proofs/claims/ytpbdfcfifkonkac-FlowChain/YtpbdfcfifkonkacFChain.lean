/-
  The law FlowChain: the walk.
-/
import Derived.Test.YtpbdfcfifkonkacFlowOwn
import Derived.Test.YtpbdfcfifkonkacFlAhead
namespace Go.Proofs.Ytpbdfcfifkonkac
open Go.RowKit

/-- A chain of so many wires. -/
def chn : Nat → List W4
  | 0 => []
  | k + 1 => chn k ++ [((k : Int), (k : Int) + 1, 1, 1)]
theorem chn_len : ∀ k, (chn k).length = k
  | 0 => rfl
  | k + 1 => by rw [chn, List.length_append, chn_len k]; rfl
set_option maxRecDepth 100000 in
theorem chn_ok : ∀ m, m < 5 → (wschk (chn m)).2 = 0 := by decide +kernel
set_option maxRecDepth 100000 in
theorem chn_way : ∀ m, m < 5 → ∀ a, a < 5 → ∀ b, b < 5 → a ≤ m → b ≤ m → way (chn m) a b = decide (a ≤ b) := by decide +kernel
set_option maxRecDepth 100000 in
theorem chn_ahd : ∀ m, m < 5 → ∀ a, a < 5 → a ≤ m → (ahd (chn m) a 5).length = a + 1 := by decide +kernel

set_option maxRecDepth 100000 in
set_option maxHeartbeats 4000000 in
theorem chain_out (n : Int) (w : World) (h : n < 1 ∨ 5 < n) :
    Calls Try.prog 4 #[.int .i64 n] w fun e w' => e = .returned (.bool true) ∧ Below w.heap.size w w' := by
  by_cases h1 : n < 1
  · clear h
    go_enter Try.func4, Try.ntmps4
    go_wp2
    go_ret
    exact ⟨rfl, Below.refl _ _⟩
  · have h1' : decide (n < 1) = false := by simpa using h1
    have h2 : 5 < n := by omega
    clear h
    go_enter Try.func4, Try.ntmps4
    go_wp2
    go_ret
    exact ⟨rfl, Below.refl _ _⟩
set_option maxRecDepth 100000 in
set_option maxHeartbeats 4000000 in
theorem chain_in (n : Nat) (w : World) (h1 : 1 ≤ n) (h5 : n ≤ 5) :
    Calls Try.prog 4 #[.int .i64 n] w fun e w' => e = .returned (.bool true) ∧ Below w.heap.size w w' := by
  obtain ⟨ii, hi, hz0, hz1, hz2⟩ := info_parts infoWr
  have a0 : decide ((n : Int) < 1) = false := by simp; omega
  have a1 : decide (5 < (n : Int)) = false := by simp; omega
  go_enter Try.func4, Try.ntmps4
  go_wp2
  go_loopw [3, 4] (fun o i wr => ∃ k : Nat, k + 1 ≤ n ∧ i = .int .i64 ((k : Int) + 1) ∧ wr.ownsRow w.heap.size 25 4 o k (wrCells (chn k)) ∧ Below w.heap.size w wr) (fun _ i _ => n - (intOf i).toNat)
  case atStart => exact ⟨0, h1, rfl, World.ownsRow_nil _ _ _ _, Below.refl _ _⟩
  case round =>
    obtain ⟨k, hk, rfl, own, hB⟩ := hrel
    have hsz := hB.size
    by_cases hkn : k + 1 < n
    · have hki : (k : Int) + 1 < (n : Int) := by omega
      go_wp2_with (at_builtin; refine wpList_append_own _ rfl _ _ 22 rfl w.heap.size 25 ii (.agg #[.int .i64 0, .int .i64 0, .int .i64 0, .int .i64 0]) 4 32 Try.underlying22 hi hz0 hz1 hz2 rfl (by decide) _ _ _ rfl (own.alloc _) ⟨wr.heap.size, 0, none⟩ 1 1 [.int .i64 k, .int .i64 (k + 1), .int .i64 1, .int .i64 1] rfl rfl ?c1A ?c2A ?c3A ?c4A ?c5A ?_)
      case c1A =>
        have := wr_new (w := wr) rfl (.int .i64 k) (.int .i64 (k + 1)) (.int .i64 1) (.int .i64 1) 25
        simpa using this
      case c2A => exact four_one k (k + 1) 1 1
      case c3A => unfold maxLen; omega
      case c4A => omega
      case c5A => simp; omega
      intro v1 w2 own2 hg1 _
      have hB2 : Below w.heap.size w w2 := (hB.alloc hB.size _).grown hg1 (by simp; omega) (fun j hj => (own.lt j hj).1)
      have HO : Hid (w2.ownsRow w.heap.size 25 4 v1 (k + 1) (wrCells (chn (k + 1)))) := by
        show World.ownsRow _ _ _ _ _ _ _
        rw [chn, wrCells_snoc]
        exact own2
      clear own own2 hg1
      go_wp2
      go_roundw
      case rel => exact ⟨k + 1, by omega, by go_num, HO.out, hB2⟩
      case measure => simp [intOf]; omega
    · have hkn1 : k + 1 = n := by omega
      have hki : decide ((k : Int) + 1 < (n : Int)) = false := by simp; omega
      have hk5 : k < 5 := by omega
      have hW : Wrs wr u3 (chn k) := wrs_of_own (by rw [chn_len]; exact own)
      have HR : Hid (∀ W, Below wr.heap.size wr W → ∀ a b : Nat, a < n → b < n → Calls Try.prog 5 #[u3, .int .i64 a, .int .i64 b] W fun e w' => e = .returned (.tuple #[.bool (decide (a ≤ b)), .nilIface]) ∧ Below W.heap.size W w') := fun W hb a b ha hb' => by
        have := reach_ok (chn k) u3 a b W (hW.all hb) (chn_ok k hk5) (by omega) (by omega)
        rw [chn_way k hk5 a (by omega) b (by omega) (by omega) (by omega)] at this
        exact this
      have HA : Hid (∀ W, Below wr.heap.size wr W → ∀ a : Nat, a < n → Calls Try.prog 7 #[u3, .int .i64 a] W fun e w' => ∃ g cap, e = .returned (.tuple #[.slice g (a + 1) cap, .nilIface]) ∧ Below W.heap.size W w') := fun W hb a ha => by
        refine (ahead_ok (chn k) u3 a W (hW.all hb) (chn_ok k hk5) (by omega)).mono fun e w' ⟨u, he, ho, hb2⟩ => ?_
        rw [chn_ahd k hk5 a (by omega) (by omega)] at ho
        obtain ⟨g, cap, rfl⟩ := own4_form ho
        exact ⟨g, cap, he, hb2⟩
      obtain ⟨g3, c3, rfl⟩ := own4_form own
      clear own hW
      go_wp2
      rename World => wo
      go_loopw [5] (fun i wr => ∃ a : Nat, a ≤ n ∧ i = .int .i64 a ∧ Below wo.heap.size wo wr) (fun i _ => n - (intOf i).toNat)
      case atStart => exact ⟨0, Nat.zero_le _, rfl, Below.refl _ _⟩
      case round =>
        obtain ⟨a, ha, rfl, hB2⟩ := hrel
        by_cases hak : a < n
        · have hai : (a : Int) < (n : Int) := by omega
          go_wp2
          rename World => wp
          go_loopw [6] (fun i wr => ∃ b : Nat, b ≤ n ∧ i = .int .i64 b ∧ Below wo.heap.size wo wr) (fun i _ => n - (intOf i).toNat)
          case atStart => exact ⟨0, Nat.zero_le _, rfl, hB2⟩
          case round =>
            clear hB2
            obtain ⟨b, hb, rfl, hB2⟩ := hrel
            by_cases hbk : b < n
            · have hbi : (b : Int) < (n : Int) := by omega
              have hr := HR.out wr hB2 a b hak hbk
              by_cases hab : a ≤ b
              · have habi : (a : Int) ≤ (b : Int) := by omega
                rw [decide_eq_true hab] at hr
                go_wp2_with (go_at_call 5; refine hr.mono ?_; rintro e w1 ⟨rfl, b1⟩; clear hr)
                go_roundw
                case rel => exact ⟨b + 1, by omega, by go_num, hB2.trans (b1.mono hB2.size)⟩
                case measure => simp [intOf]; omega
              · have habi : decide ((a : Int) ≤ (b : Int)) = false := by simp; omega
                have habn : decide (a ≤ b) = false := by simp; omega
                rw [habn] at hr
                go_wp2_with (go_at_call 5; refine hr.mono ?_; rintro e w1 ⟨rfl, b1⟩; clear hr)
                go_roundw
                case rel => exact ⟨b + 1, by omega, by go_num, hB2.trans (b1.mono hB2.size)⟩
                case measure => simp [intOf]; omega
            · obtain rfl : b = n := by omega
              have hbi : decide ((b : Int) < (b : Int)) = false := by simp
              have hr := HA.out wr hB2 a hak
              go_wp2_with (go_at_call 7; refine hr.mono ?_; rintro e w1 ⟨g, cap, rfl, b1⟩; clear hr)
              go_roundw
              case rel => exact ⟨a + 1, by omega, by go_num, hB2.trans (b1.mono hB2.size)⟩
              case measure => simp [intOf]; omega
        · obtain rfl : a = n := by omega
          have hai : decide ((a : Int) < (a : Int)) = false := by simp
          go_wp2
          go_ret
          exact ⟨rfl, hB.trans (hB2.mono hB.size)⟩
theorem chain_any (n : Int) (w : World) :
    Calls Try.prog 4 #[.int .i64 n] w fun e w' => e = .returned (.bool true) ∧ Below w.heap.size w w' := by
  by_cases h : n < 1 ∨ 5 < n
  · exact chain_out n w h
  · obtain ⟨m, rfl⟩ : ∃ m : Nat, n = m := ⟨n.toNat, by omega⟩
    exact chain_in m w (by omega) (by omega)
end Go.Proofs.Ytpbdfcfifkonkac
