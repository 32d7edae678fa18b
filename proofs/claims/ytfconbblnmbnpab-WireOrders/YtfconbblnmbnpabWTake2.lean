/-
  (*wire.Line).Take, Held.
-/
import Derived.Test.YtfconbblnmbnpabWDel
namespace Go.Proofs.Ytfconbblnmbnpab
open Go.RowKit

set_option maxRecDepth 100000 in
set_option maxHeartbeats 2000000 in
theorem take_none (b : Nat) (kd dp ls : Int) (ao : Option Addr) (cap : Nat) (w : World) (hL : LnC w b kd dp ls (.slice ao 0 cap)) :
    Calls Try.prog 11 #[.pointer (some ⟨b, 0, none⟩)] w fun e w' => e = .returned (.tuple #[.int .i64 0, .iface 53 (.int .i64 5)]) ∧ w' = w := by
  have hp := peek_none b kd dp ls ao cap w hL
  clear hL
  go_enter Try.func11, Try.ntmps11
  go_wp2_with (go_at_call 20; refine hp.mono ?_; rintro e w1 ⟨rfl, rfl⟩; clear hp)
  go_ret2
  exact ⟨rfl, rfl⟩
set_option maxRecDepth 100000 in
set_option maxHeartbeats 2000000 in
theorem take_sample (b : Nat) (dp ls : Int) (g m cap : Nat) (x : Int) (w : World) (hL : LnC w b 1 dp ls (.slice (some ⟨g, 0, none⟩) m cap)) (hm : 0 < m) (hx : w.cell? ⟨g, 0, none⟩ = some (.int .i64 x)) :
    Calls Try.prog 11 #[.pointer (some ⟨b, 0, none⟩)] w fun e w' => e = .returned (.tuple #[.int .i64 x, .nilIface]) ∧ w' = w := by
  have hp := peek_some b 1 dp ls g m cap x w hL hm hx
  have hlt := hL.lt
  obtain ⟨c0, c1, c2, c3, f2, f3⟩ := hL
  clear c1 c2 c3 f2 f3 hx
  go_enter Try.func11, Try.ntmps11
  go_wp2_with (go_at_call 20; refine hp.mono ?_; rintro e w1 ⟨rfl, rfl⟩; clear hp)
  go_ret2
  exact ⟨rfl, rfl⟩
set_option maxRecDepth 100000 in
set_option maxHeartbeats 4000000 in
theorem take_queue (base b : Nat) (dp ls : Int) (x : Int) (ys : List Int) (v : Value) (w : World) (hL : Ln w base b 2 dp (x :: ys) ls v) :
    Calls Try.prog 11 #[.pointer (some ⟨b, 0, none⟩)] w fun e w' => ∃ v', e = .returned (.tuple #[.int .i64 x, .nilIface]) ∧ Ln w' base b 2 dp ys ls v' ∧ Touch w w' b v v' := by
  obtain ⟨g, cap, rfl⟩ : ∃ g cap, v = .slice (some ⟨g, 0, none⟩) (ys.length + 1) cap := by
    rcases row_form hL.row with ⟨_, h⟩ | h
    · simp at h
    · exact h
  have hrow := hL.row
  have hcp := own_cap hrow
  have hx : w.cell? ⟨g, 0, none⟩ = some (.int .i64 x) := hcp.2.2.2.2.1 0 _ rfl
  have hp := peek_some b 2 dp ls g (ys.length + 1) cap x w hL.c (by omega) hx
  have hd := del_first base g cap x ys w hrow
  have HL : Hid (Ln w base b 2 dp (x :: ys) ls (.slice (some ⟨g, 0, none⟩) (ys.length + 1) cap)) := hL
  have hlt := hL.c.lt
  have hbg : b ≠ g := by have := hL.lt; have := hcp.1; omega
  obtain ⟨c0, c1, c2, c3, f2, f3⟩ := hL.c
  clear c1 c3 f3 hx hL hrow hcp
  go_enter Try.func11, Try.ntmps11
  go_wp2_with (first | (go_at_call 20; refine hp.mono ?_; rintro e w1 ⟨rfl, rfl⟩; clear hp) | (go_at_call 21; refine hd.mono ?_; rintro e w2 ⟨rfl, own2, hg2⟩; clear hd; have hb2 := hg2.block b hlt (fun e => hbg (Option.some.inj e)); have hc2 := HL.out.c.block hb2; have HC : Hid (LnC w2 b 2 dp ls (.slice (some ⟨g, 0, none⟩) (ys.length + 1) cap)) := hc2; obtain ⟨k0, k1, k2, k3, k4, k5⟩ := hc2; clear k0 k1 k3 k5; have hlt2 := HC.out.lt))
  go_ret2
  refine ⟨_, rfl, ⟨HC.out.items _, ownsRow_setCell_below own2 (a := ⟨b, 2, none⟩) HL.out.lt _, HL.out.lt, by have := HL.out.le; have := hg2.size; simp; omega⟩, ?_⟩
  exact ((Touch.refl w1 b (.slice (some ⟨g, 0, none⟩) (ys.length + 1) cap)).grown (v2 := .slice (some ⟨g, 0, none⟩) ys.length cap) hg2 (fun k hk => Or.inl hk)).set 2 _
end Go.Proofs.Ytfconbblnmbnpab
