/-
  room.Step: what is there to be taken is none; one that has failed.
-/
import Derived.Test.YtkoomlnndnjllahDoorRoomStep
namespace Go.Proofs.YtkoomlnndnjllahDoor
open Go.RowKit

set_option maxRecDepth 100000 in
set_option maxHeartbeats 4000000 in
theorem rstep_got (ao : Option Addr) (n cap : Nat) (got : Int) (s : St) (w : World) (hg : got < 0 ∨ 999 < got)
    (hk : Calls Tryd.prog 67 #[.slice ao n cap, stV s] (W2 w s) fun ev w' => ev = .returned (.nilIface) ∧ Below (w.heap.size + 1 + 1) (W2 w s) w') :
    Calls Tryd.prog 51 #[.slice ao n cap, stV s, .int .i64 got, .bool true] w fun ev w' => ev = .returned (.tuple #[stV st0, .int .i64 0, errV 1]) ∧ Below w.heap.size w w' := by
  have hk' := hk
  clear hk
  have HO : outB got = true := by simpa [outB] using hg
  clear hg
  have ho := fun W => outside_any got W
  rw [HO] at ho
  clear HO
  unfold stV at hk' ⊢
  unfold W2 at hk'
  go_enter Tryd.func51, Tryd.ntmps51
  go_wp2_with (first | (go_at_call 67; refine hk'.mono ?_; rintro ev w1 ⟨rfl, b1⟩; clear hk') | (go_at_call 68; refine (ho _).mono ?_; rintro ev w2 ⟨rfl, b2⟩; clear ho; obtain ⟨⟨c0, c1, c2, c3, c4, c5, c6, c7⟩, ⟨d0, d1, d2, d3, d4, d5, d6, d7⟩, ⟨f0, f1, f2, f3, f4, f5, f6, f7⟩, hsz, bw⟩ := w2_box (s := s) (b1.trans (b2.mono (by have := b1.size; simp at this; omega))); clear b1 b2))
  refine bodyPost_ret (v := .tuple #[stV st0, .int .i64 0, errV 1]) ?_ rfl ⟨rfl, ?_⟩
  · simp [results, Tryd.results51, go_sem, d0, d1, d2, d3, d4, d5, d6, d7, stV, st0, errV]
  · exact put8_below bw (Nat.le_succ _) _ _ _ _ _ _ _ _

set_option maxRecDepth 100000 in
set_option maxHeartbeats 4000000 in
theorem rstep_failed (ao : Option Addr) (n cap : Nat) (got : Int) (is : Bool) (s : St) (w : World) (hg : is = true → outB got = false) (hs : s.f = true)
    (hk : Calls Tryd.prog 67 #[.slice ao n cap, stV s] (W2 w s) fun ev w' => ev = .returned (.nilIface) ∧ Below (w.heap.size + 1 + 1) (W2 w s) w') :
    Calls Tryd.prog 51 #[.slice ao n cap, stV s, .int .i64 got, .bool is] w fun ev w' => ev = .returned (.tuple #[stV s, .int .i64 (-1), .nilIface]) ∧ Below w.heap.size w w' := by
  have hk' := hk
  clear hk
  have ho := fun W => outside_any got W
  have HS : Hid (s.f = true) := hs
  clear hs
  unfold stV at hk' ⊢
  unfold W2 at hk'
  cases is with
  | false =>
    clear hg ho
    go_enter Tryd.func51, Tryd.ntmps51
    go_wp2_with (first | (go_at_call 67; refine hk'.mono ?_; rintro ev w1 ⟨rfl, b1⟩; clear hk'; obtain ⟨⟨c0, c1, c2, c3, c4, c5, c6, c7⟩, ⟨d0, d1, d2, d3, d4, d5, d6, d7⟩, ⟨f0, f1, f2, f3, f4, f5, f6, f7⟩, hsz, bw⟩ := w2_box (s := s) b1; clear b1; rw [HS.out] at c7))
    refine bodyPost_ret (v := .tuple #[stV s, .int .i64 (-1), .nilIface]) ?_ rfl ⟨rfl, ?_⟩
    · simp [results, Tryd.results51, go_sem, d0, d1, d2, d3, d4, d5, d6, d7, stV, HS.out]
    · exact put8_below bw (Nat.le_succ _) _ _ _ _ _ _ _ _
  | true =>
    rw [hg rfl] at ho
    clear hg
    go_enter Tryd.func51, Tryd.ntmps51
    go_wp2_with (first | (go_at_call 67; refine hk'.mono ?_; rintro ev w1 ⟨rfl, b1⟩; clear hk') | (go_at_call 68; refine (ho _).mono ?_; rintro ev w2 ⟨rfl, b2⟩; clear ho; obtain ⟨⟨c0, c1, c2, c3, c4, c5, c6, c7⟩, ⟨d0, d1, d2, d3, d4, d5, d6, d7⟩, ⟨f0, f1, f2, f3, f4, f5, f6, f7⟩, hsz, bw⟩ := w2_box (s := s) (b1.trans (b2.mono (by have := b1.size; simp at this; omega))); clear b1 b2; rw [HS.out] at c7))
    refine bodyPost_ret (v := .tuple #[stV s, .int .i64 (-1), .nilIface]) ?_ rfl ⟨rfl, ?_⟩
    · simp [results, Tryd.results51, go_sem, d0, d1, d2, d3, d4, d5, d6, d7, stV, HS.out]
    · exact put8_below bw (Nat.le_succ _) _ _ _ _ _ _ _ _
end Go.Proofs.YtkoomlnndnjllahDoor
