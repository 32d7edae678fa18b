/-
  Package plan's table of parts, and what reads it: line, named, follows.
-/
import Derived.Test.YtamnfadngbbaeacGreatDoorDraftA
import Derived.Test.YtamnfadngbbaeacGreatDoorLine
import Derived.Lib.Strings
namespace Go.Proofs.YtamnfadngbbaeacGreatDoor
open Go.RowKit

/-- The cells of the table of parts. -/
def partsCells : List Value := [
  .string ⟨#[]⟩, .int .i64 0,
  .string ⟨#[102, 114, 97, 109, 101]⟩, .int .i64 1,
  .string ⟨#[115, 112, 97, 110]⟩, .int .i64 3,
  .string ⟨#[119, 105, 114, 101]⟩, .int .i64 4,
  .string ⟨#[114, 111, 111, 109]⟩, .int .i64 0]
/-- The table of parts lies in the world. -/
def Parts (w : World) : Prop := ∀ i v, partsCells[i]? = some v → w.cell? ⟨0, i, none⟩ = some v
theorem Parts.lt {w : World} (hf : Parts w) : 0 < w.heap.size := lt_of_cell (hf 0 _ rfl)
theorem Parts.all {w w' : World} (hf : Parts w) (hb : Below w.heap.size w w') : Parts w' := fun i v h => (hb.cell (p := ⟨_, i, none⟩) hf.lt).trans (hf i v h)
/-- The word of a kind, and how many numbers it says. -/
def wordB : Nat → List UInt8
  | 1 => wFrame
  | 2 => wSpan
  | 3 => wWire
  | 4 => wRoom
  | _ => []
def numsN : Nat → Nat
  | 1 => 1
  | 2 => 3
  | 3 => 4
  | _ => 0
theorem parts_at {w : World} (hf : Parts w) (k : Nat) (h1 : 1 ≤ k) (h2 : k ≤ 4) : w.cell? ⟨0, k * 2, none⟩ = some (.string ⟨(wordB k).toArray⟩) ∧ w.cell? ⟨0, k * 2 + 1, none⟩ = some (.int .i64 (numsN k)) := by
  have h : k = 1 ∨ k = 2 ∨ k = 3 ∨ k = 4 := by omega
  rcases h with rfl | rfl | rfl | rfl <;> exact ⟨hf _ _ rfl, hf _ _ rfl⟩
def kindB (p : List UInt8) : Nat := if p = wFrame then 1 else if p = wSpan then 2 else if p = wWire then 3 else if p = wRoom then 4 else 0
theorem kind_word (k : Nat) (h1 : 1 ≤ k) (h2 : k ≤ 4) : kindB (wordB k) = k := by
  have h : k = 1 ∨ k = 2 ∨ k = 3 ∨ k = 4 := by omega
  rcases h with rfl | rfl | rfl | rfl <;> decide
theorem kind_none {p : List UInt8} (h : ∀ k : Nat, 1 ≤ k → k ≤ 4 → p ≠ wordB k) : kindB p = 0 := by
  unfold kindB
  rw [if_neg (show ¬ p = wFrame from h 1 (by omega) (by omega)), if_neg (show ¬ p = wSpan from h 2 (by omega) (by omega)), if_neg (show ¬ p = wWire from h 3 (by omega) (by omega)), if_neg (show ¬ p = wRoom from h 4 (by omega) (by omega))]
theorem kind_cases (p : List UInt8) : kindB p = 0 ∨ ∃ k : Nat, 1 ≤ k ∧ k ≤ 4 ∧ kindB p = k ∧ p = wordB k := by
  by_cases h : ∃ k : Nat, 1 ≤ k ∧ k ≤ 4 ∧ p = wordB k
  · obtain ⟨k, h1, h2, rfl⟩ := h
    exact Or.inr ⟨k, h1, h2, kind_word k h1 h2, rfl⟩
  · exact Or.inl (kind_none fun k h1 h2 e => h ⟨k, h1, h2, e⟩)

set_option maxRecDepth 100000 in
set_option maxHeartbeats 2000000 in
theorem plnamed_any (s : ByteArray) (w : World) (hf : Parts w) :
    Calls Tryz.prog 56 #[.string s] w fun e w' => e = .returned (.int .i64 (kindB s.data.toList)) ∧ w' = w := by
  have hst : s.toList = s.data.toList := Lib.toList_data s
  go_enter Tryz.func56, Tryz.ntmps56
  go_wp2
  go_loop [3] (fun i => ∃ k : Nat, 1 ≤ k ∧ k ≤ 5 ∧ i = .int .i64 k ∧ ∀ j : Nat, 1 ≤ j → j < k → s.data.toList ≠ wordB j) (fun i => 5 - (intOf i).toNat)
  case atStart => exact ⟨1, by omega, by omega, rfl, fun j h1 h2 => by omega⟩
  case round =>
    obtain ⟨k, hk1, hk2, rfl, hall⟩ := hrel
    have HA : Hid (∀ j : Nat, 1 ≤ j → j < k → s.data.toList ≠ wordB j) := hall
    clear hall
    by_cases hk : k ≤ 4
    · have hc := (parts_at hf k hk1 hk).1
      by_cases he : s.data.toList = wordB k
      · have ht : (wordB k == s.toList) = true := by rw [hst, he]; simp
        have HE : Hid (((kindB s.data.toList : Nat) : Int) = k) := by show _ = _; rw [he, kind_word k hk1 hk]
        clear hst he hf
        go_wp2
        go_ret
        exact ⟨ret_int HE.out.symm, rfl⟩
      · have ht : (wordB k == s.toList) = false := by rw [hst]; simp; exact fun e => he e.symm
        have HE : Hid (s.data.toList ≠ wordB k) := he
        clear hst he hf
        go_wp2
        go_round
        case rel =>
          refine ⟨k + 1, by omega, by omega, by go_num, fun j h1 h2 => ?_⟩
          by_cases hj : j < k
          · exact HA.out j h1 hj
          · obtain rfl : j = k := by omega
            exact HE.out
        case measure => simp [intOf]; omega
    · have HE : Hid (((kindB s.data.toList : Nat) : Int) = 0) := by show _ = _; rw [kind_none fun j h1 h2 => HA.out j h1 (by omega)]; rfl
      clear hst hf
      go_wp2
      go_ret
      exact ⟨ret_int HE.out.symm, rfl⟩

def follB (last kind : Nat) : Bool := if kind = 1 then decide (last = 0) else decide (last ≠ 0) && decide (last ≤ kind)
set_option maxRecDepth 100000 in
set_option maxHeartbeats 1000000 in
theorem follows_any (last kind : Nat) (w : World) (h1 : last ≤ 4) (h2 : 1 ≤ kind) (h3 : kind ≤ 4) :
    Calls Tryz.prog 58 #[.int .i64 last, .int .i64 kind] w fun e w' => e = .returned (.bool (follB last kind)) ∧ w' = w := by
  have hl : last = 0 ∨ last = 1 ∨ last = 2 ∨ last = 3 ∨ last = 4 := by omega
  have hk : kind = 1 ∨ kind = 2 ∨ kind = 3 ∨ kind = 4 := by omega
  clear h1 h2 h3
  rcases hl with rfl | rfl | rfl | rfl | rfl <;> rcases hk with rfl | rfl | rfl | rfl
  all_goals
    go_enter Tryz.func58, Tryz.ntmps58
    go_wp2
    go_ret
    exact ⟨rfl, rfl⟩

set_option maxRecDepth 100000 in
set_option maxHeartbeats 1000000 in
theorem plline_any (k : Nat) (v : Value) (zs : List Int) (w : World) (h1 : 1 ≤ k) (h2 : k ≤ 4) (hf : Parts w) (hp : Pow10 w) (hv : Ints w v zs)
    (hz : ∀ z ∈ zs, -9223372036854775808 ≤ z ∧ z ≤ 9223372036854775807) (hlen : zs.length ≤ 4) :
    Calls Tryz.prog 25 #[.int .i64 k, v] w fun e w' => e = .returned (.string ⟨(lineB (wordB k) zs).toArray⟩) ∧ Below w.heap.size w w' := by
  have hwl : (wordB k).length ≤ 5 := by
    have h : k = 1 ∨ k = 2 ∨ k = 3 ∨ k = 4 := by omega
    rcases h with rfl | rfl | rfl | rfl <;> decide
  have hl := line_any ⟨(wordB k).toArray⟩ v zs w hp hv hz (by rw [ba_size]; omega)
  have hc := (parts_at hf k h1 h2).1
  clear hf hp hv hz
  go_enter Tryz.func25, Tryz.ntmps25
  go_wp2_with (go_at_call 49; refine hl.mono ?_; rintro e w1 ⟨rfl, b1⟩; clear hl)
  go_ret
  exact ⟨rfl, b1⟩
end Go.Proofs.YtamnfadngbbaeacGreatDoor
