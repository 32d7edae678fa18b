/-
  words.Number at four digits: a number from 0 on, without a needless 0; of any word.
-/
import Derived.Test.YtamnfadngbbaeacGreatDoorKeep
import Derived.Lib.AtoiTie
import Derived.Lib.Strings
namespace Go.Proofs.YtamnfadngbbaeacGreatDoor
open Go.RowKit

/-- The library's error for a wrong syntax lies in its variable. -/
def ErrS (w : World) : Prop := ∃ tp p, w.var? Tryz.prog "strconv.ErrSyntax" = some #[.iface tp p]
theorem gErr : Tryz.prog.globalNamed "strconv.ErrSyntax" = some 7 := by kernel_rfl
theorem ErrS.all {w w' : World} (h : ErrS w) (hb : Below w.heap.size w w') : ErrS w' := by
  obtain ⟨tp, p, h⟩ := h
  exact ⟨tp, p, Joins.var_stays gErr h hb (Nat.le_refl _)⟩
/-- All tables and variables that reading a text asks for. -/
structure Tabs2 (w : World) : Prop where
  tabs : Tabs w
  err : ErrS w
theorem Tabs2.all {w w' : World} (h : Tabs2 w) (hb : Below w.heap.size w w') : Tabs2 w' := ⟨h.tabs.all hb, h.err.all hb⟩
theorem Tabs2.alloc {w : World} (h : Tabs2 w) (o : Obj) : Tabs2 (w.alloc o) := h.all ((Below.refl _ _).alloc (Nat.le_refl _) _)

theorem atoi_range {l : List UInt8} {n : Int} (hl : l.length ≤ 18) (h : Lib.atoi l = some n) : -9223372036854775808 ≤ n ∧ n ≤ 9223372036854775807 :=
  Lib.atoiAll_bounds (l := l) (by rw [Lib.atoiAll_short l hl, h]; rfl)
theorem atoi_yes (s : ByteArray) (n : Int) (hl : s.size ≤ 18) (h : Lib.atoi s.data.toList = some n) (w : World) :
    Calls Tryz.prog 99 #[.string s] w fun e w' => e = .returned (.tuple #[.int .i64 n, .nilIface]) ∧ Below w.heap.size w w' := by
  refine (Tryz.strconv_Atoi s n hl h w).mono ?_
  rintro e w' ⟨rfl, t, rfl⟩
  exact ⟨rfl, Joins.below_bytesWorld _ _ _ _ (Nat.le_refl _)⟩
theorem atoi_no (s : ByteArray) (hl : s.size ≤ 18) (h : Lib.atoi s.data.toList = none) (w : World) (he : ErrS w) :
    Calls Tryz.prog 99 #[.string s] w fun e w' => ∃ t p, e = .returned (.tuple #[.int .i64 0, .iface t p]) ∧ Below w.heap.size w w' := by
  obtain ⟨tp, p, hv⟩ := he
  refine (Tryz.strconv_Atoi_err_var s hl h tp p w hv).mono ?_
  rintro e w' ⟨N, rfl, _, _, hb⟩
  exact ⟨_, _, rfl, hb⟩

set_option maxRecDepth 100000 in
set_option maxHeartbeats 2000000 in
theorem number_long (s : ByteArray) (w : World) (h : 4 < s.size) :
    Calls Tryz.prog 83 #[.string s, .int .i64 4] w fun e w' => e = .returned (.tuple #[.int .i64 0, .bool false]) ∧ Below w.heap.size w w' := by
  go_enter Tryz.func83, Tryz.ntmps83
  go_wp2
  go_ret2
  exact ⟨rfl, Below.refl _ _⟩
set_option maxRecDepth 100000 in
set_option maxHeartbeats 2000000 in
theorem number_bad (s : ByteArray) (w : World) (hl : s.size ≤ 4) (h : Lib.atoi s.data.toList = none) (he : ErrS w) :
    Calls Tryz.prog 83 #[.string s, .int .i64 4] w fun e w' => e = .returned (.tuple #[.int .i64 0, .bool false]) ∧ Below w.heap.size w w' := by
  have hat := atoi_no s (by omega) h w he
  clear h he
  go_enter Tryz.func83, Tryz.ntmps83
  go_wp2_with (go_at_call 99; refine hat.mono ?_; rintro e w1 ⟨t, p, rfl, b1⟩; clear hat)
  go_ret2
  exact ⟨rfl, b1⟩
set_option maxRecDepth 100000 in
set_option maxHeartbeats 2000000 in
theorem number_neg (s : ByteArray) (n : Int) (w : World) (hl : s.size ≤ 4) (h : Lib.atoi s.data.toList = some n) (hn : n < 0) :
    Calls Tryz.prog 83 #[.string s, .int .i64 4] w fun e w' => e = .returned (.tuple #[.int .i64 0, .bool false]) ∧ Below w.heap.size w w' := by
  have hat := atoi_yes s n (by omega) h w
  clear h
  go_enter Tryz.func83, Tryz.ntmps83
  go_wp2_with (go_at_call 99; refine hat.mono ?_; rintro e w1 ⟨rfl, b1⟩; clear hat)
  go_ret2
  exact ⟨rfl, b1⟩
set_option maxRecDepth 100000 in
set_option maxHeartbeats 2000000 in
theorem number_yes (s : ByteArray) (n : Int) (w : World) (hl : s.size ≤ 4) (h : Lib.atoi s.data.toList = some n) (hn : 0 ≤ n) (hp : Pow10 w) (hB : (Lib.itoa n == s.toList) = true) :
    Calls Tryz.prog 83 #[.string s, .int .i64 4] w fun e w' => e = .returned (.tuple #[.int .i64 n, .bool true]) ∧ Below w.heap.size w w' := by
  have hr := atoi_range (by simpa using (show s.size ≤ 18 by omega)) h
  have hat := atoi_yes s n (by omega) h w
  clear h
  go_enter Tryz.func83, Tryz.ntmps83
  go_wp2_with (first | (go_at_call 99; refine hat.mono ?_; rintro e w1 ⟨rfl, b1⟩; clear hat) | (go_at_call 78; refine (itoa_any n hr.1 hr.2 w1 (hp.all b1)).mono ?_; rintro e w2 ⟨rfl, b2⟩))
  go_ret2
  exact ⟨rfl, b1.trans (b2.mono b1.size)⟩
set_option maxRecDepth 100000 in
set_option maxHeartbeats 2000000 in
theorem number_other (s : ByteArray) (n : Int) (w : World) (hl : s.size ≤ 4) (h : Lib.atoi s.data.toList = some n) (hn : 0 ≤ n) (hp : Pow10 w) (hB : (Lib.itoa n == s.toList) = false) :
    Calls Tryz.prog 83 #[.string s, .int .i64 4] w fun e w' => e = .returned (.tuple #[.int .i64 0, .bool false]) ∧ Below w.heap.size w w' := by
  have hr := atoi_range (by simpa using (show s.size ≤ 18 by omega)) h
  have hat := atoi_yes s n (by omega) h w
  clear h
  go_enter Tryz.func83, Tryz.ntmps83
  go_wp2_with (first | (go_at_call 99; refine hat.mono ?_; rintro e w1 ⟨rfl, b1⟩; clear hat) | (go_at_call 78; refine (itoa_any n hr.1 hr.2 w1 (hp.all b1)).mono ?_; rintro e w2 ⟨rfl, b2⟩))
  go_ret2
  exact ⟨rfl, b1.trans (b2.mono b1.size)⟩

theorem number_any (s : ByteArray) (w : World) (ht : Tabs2 w) :
    Calls Tryz.prog 83 #[.string s, .int .i64 4] w fun e w' => e = .returned (numV s.data.toList) ∧ Below w.heap.size w w' := by
  have hsl : s.data.toList.length = s.size := by simp
  have hst : s.toList = s.data.toList := Lib.toList_data s
  unfold numV
  by_cases h1 : 4 < s.size
  · rw [numB_long (by omega)]; exact number_long s w h1
  · cases h2 : Lib.atoi s.data.toList with
    | none => rw [numB_bad h2]; exact number_bad s w (by omega) h2 ht.err
    | some n =>
      by_cases h3 : n < 0
      · rw [numB_neg h2 h3]; exact number_neg s n w (by omega) h2 h3
      · by_cases h4 : Lib.itoa n = s.data.toList
        · rw [numB_yes (by omega) h2 (by omega) h4]; exact number_yes s n w (by omega) h2 (by omega) ht.tabs.pow (by rw [hst]; simpa using h4)
        · rw [numB_other h2 h4]; exact number_other s n w (by omega) h2 (by omega) ht.tabs.pow (by rw [hst]; simpa using h4)
end Go.Proofs.YtamnfadngbbaeacGreatDoor
