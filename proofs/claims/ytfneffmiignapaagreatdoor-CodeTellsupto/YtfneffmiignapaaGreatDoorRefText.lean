/-
  frameref1.Digits, name, Row, OpText, CodeText: the text of code that is right.
-/
import Derived.Test.YtfneffmiignapaaGreatDoorCodeL
import Derived.Lib.Strings
import Derived.Lib.ItoaNum
namespace Go.Proofs.YtfneffmiignapaaGreatDoor
open Go.RowKit

/-- A digit as a text. -/
def dgB (k : Nat) : ByteArray := ⟨#[UInt8.ofNat (48 + k)]⟩
theorem digit0 (w : World) : (Instr.slice 9 (.string ⟨#[48, 49, 50, 51, 52, 53, 54, 55, 56, 57]⟩) (some (.int .i64 0)) (some (.int .i64 1)) none).run Tryz.prog w = .ok (.string (dgB 0)) w := by kernel_rfl
theorem digit1 (w : World) : (Instr.slice 9 (.string ⟨#[48, 49, 50, 51, 52, 53, 54, 55, 56, 57]⟩) (some (.int .i64 1)) (some (.int .i64 2)) none).run Tryz.prog w = .ok (.string (dgB 1)) w := by kernel_rfl
theorem digit2 (w : World) : (Instr.slice 9 (.string ⟨#[48, 49, 50, 51, 52, 53, 54, 55, 56, 57]⟩) (some (.int .i64 2)) (some (.int .i64 3)) none).run Tryz.prog w = .ok (.string (dgB 2)) w := by kernel_rfl
theorem digit3 (w : World) : (Instr.slice 9 (.string ⟨#[48, 49, 50, 51, 52, 53, 54, 55, 56, 57]⟩) (some (.int .i64 3)) (some (.int .i64 4)) none).run Tryz.prog w = .ok (.string (dgB 3)) w := by kernel_rfl
theorem digit4 (w : World) : (Instr.slice 9 (.string ⟨#[48, 49, 50, 51, 52, 53, 54, 55, 56, 57]⟩) (some (.int .i64 4)) (some (.int .i64 5)) none).run Tryz.prog w = .ok (.string (dgB 4)) w := by kernel_rfl
theorem digit5 (w : World) : (Instr.slice 9 (.string ⟨#[48, 49, 50, 51, 52, 53, 54, 55, 56, 57]⟩) (some (.int .i64 5)) (some (.int .i64 6)) none).run Tryz.prog w = .ok (.string (dgB 5)) w := by kernel_rfl
theorem digit6 (w : World) : (Instr.slice 9 (.string ⟨#[48, 49, 50, 51, 52, 53, 54, 55, 56, 57]⟩) (some (.int .i64 6)) (some (.int .i64 7)) none).run Tryz.prog w = .ok (.string (dgB 6)) w := by kernel_rfl
theorem digit7 (w : World) : (Instr.slice 9 (.string ⟨#[48, 49, 50, 51, 52, 53, 54, 55, 56, 57]⟩) (some (.int .i64 7)) (some (.int .i64 8)) none).run Tryz.prog w = .ok (.string (dgB 7)) w := by kernel_rfl
theorem digit8 (w : World) : (Instr.slice 9 (.string ⟨#[48, 49, 50, 51, 52, 53, 54, 55, 56, 57]⟩) (some (.int .i64 8)) (some (.int .i64 9)) none).run Tryz.prog w = .ok (.string (dgB 8)) w := by kernel_rfl
theorem digit9 (w : World) : (Instr.slice 9 (.string ⟨#[48, 49, 50, 51, 52, 53, 54, 55, 56, 57]⟩) (some (.int .i64 9)) (some (.int .i64 10)) none).run Tryz.prog w = .ok (.string (dgB 9)) w := by kernel_rfl
theorem digit_slice (k : Nat) (z : Int) (hz : z = k) (h : k < 10) (w : World) : (Instr.slice 9 (.string ⟨#[48, 49, 50, 51, 52, 53, 54, 55, 56, 57]⟩) (some (.int .i64 z)) (some (.int .i64 (z + 1))) none).run Tryz.prog w = .ok (.string (dgB k)) w := by
  subst hz
  have : k = 0 ∨ k = 1 ∨ k = 2 ∨ k = 3 ∨ k = 4 ∨ k = 5 ∨ k = 6 ∨ k = 7 ∨ k = 8 ∨ k = 9 := by omega
  rcases this with rfl | rfl | rfl | rfl | rfl | rfl | rfl | rfl | rfl | rfl
  · exact digit0 w
  · exact digit1 w
  · exact digit2 w
  · exact digit3 w
  · exact digit4 w
  · exact digit5 w
  · exact digit6 w
  · exact digit7 w
  · exact digit8 w
  · exact digit9 w

set_option maxRecDepth 100000 in
set_option maxHeartbeats 4000000 in
theorem digits_one (n : Nat) (w : World) (h : n < 10) : Calls Tryz.prog 45 #[.int .i64 n] w fun e w' => e = .returned (.string ⟨(Lib.decDigits n).toArray⟩) ∧ w' = w := by
  have h' : (n : Int) < 10 := by omega
  have hs := digit_slice n n rfl h
  go_enter Tryz.func45, Tryz.ntmps45
  go_wp2
  go_ret
  exact ⟨by rw [Lib.decDigits_one h]; rfl, rfl⟩

theorem ba_app (a b : List UInt8) : (⟨a.toArray⟩ : ByteArray) ++ (⟨b.toArray⟩ : ByteArray) = ⟨(a ++ b).toArray⟩ := by
  apply ByteArray.ext
  apply Array.toList_inj.1
  simp
theorem ba_app3 (a b c : List UInt8) : (⟨a.toArray⟩ : ByteArray) ++ (⟨b.toArray⟩ : ByteArray) ++ (⟨c.toArray⟩ : ByteArray) = ⟨(a ++ (b ++ c)).toArray⟩ := by rw [ba_app, ba_app, List.append_assoc]
theorem ret_str {a b : List UInt8} (h : a = b) : Ending.returned (.string ⟨a.toArray⟩) = .returned (.string ⟨b.toArray⟩) := by rw [h]
theorem dec_short {n : Nat} (h : n ≤ 100000) : (Lib.decDigits n).length ≤ 20 := by
  rw [Lib.decDigits_length]
  exact Lib.nDigits_le20 n (by omega)

set_option maxRecDepth 100000 in
set_option maxHeartbeats 4000000 in
theorem digits_more (n : Nat) (w : World) (h : ¬ n < 10) (hn : n ≤ 100000) (ih : Calls Tryz.prog 45 #[.int .i64 ((n : Int) / 10)] w fun e w' => e = .returned (.string ⟨(Lib.decDigits (n / 10)).toArray⟩) ∧ w' = w) :
    Calls Tryz.prog 45 #[.int .i64 n] w fun e w' => e = .returned (.string ⟨(Lib.decDigits n).toArray⟩) ∧ w' = w := by
  have h' : ¬ (n : Int) < 10 := by omega
  have hs := digit_slice (n % 10) ((n : Int) % 10) (by omega) (by omega)
  have hd : Lib.decDigits n = Lib.decDigits (n / 10) ++ [UInt8.ofNat (48 + n % 10)] := by rw [Lib.decDigits, dif_neg h]
  have HD : Hid (Lib.decDigits n = Lib.decDigits (n / 10) ++ [UInt8.ofNat (48 + n % 10)]) := hd
  have hl := dec_short (n := n / 10) (by omega)
  have hdg : (dgB (n % 10)).size = 1 := rfl
  clear hd
  obtain ⟨D, hD⟩ : ∃ D, D = Lib.decDigits (n / 10) := ⟨_, rfl⟩
  rw [← hD] at ih hl
  have HE : Hid (D = Lib.decDigits (n / 10)) := hD
  clear hD
  go_enter Tryz.func45, Tryz.ntmps45
  go_wp2_with (go_at_call 45; refine ih.mono ?_; rintro e w1 ⟨rfl, hw⟩; subst hw; clear ih)
  go_ret
  refine ⟨?_, rfl⟩
  rw [HD.out, ← HE.out]
  exact congrArg (fun x => Ending.returned (Value.string x)) (ba_app D [UInt8.ofNat (48 + n % 10)])
theorem digits_any (n : Nat) (hn : n ≤ 100000) (w : World) : Calls Tryz.prog 45 #[.int .i64 n] w fun e w' => e = .returned (.string ⟨(Lib.decDigits n).toArray⟩) ∧ w' = w := by
  induction n using Nat.strongRecOn with
  | _ n ih =>
    by_cases h : n < 10
    · exact digits_one n w h
    · exact digits_more n w h hn (ih (n / 10) (by omega) (by omega))
theorem digits_int (z : Int) (h0 : 0 ≤ z) (h1 : z ≤ 100000) (w : World) : Calls Tryz.prog 45 #[.int .i64 z] w fun e w' => e = .returned (.string ⟨(Lib.itoa z).toArray⟩) ∧ w' = w := by
  obtain ⟨n, rfl⟩ : ∃ n : Nat, z = n := ⟨z.toNat, by omega⟩
  have := digits_any n (by omega) w
  rwa [show Lib.itoa (n : Int) = Lib.decDigits n from by unfold Lib.itoa; rw [if_neg (by omega)]; rfl]

set_option maxRecDepth 1000000 in
set_option maxHeartbeats 4000000 in
theorem row_some (word : List UInt8) (a : Addr) (cap : Nat) (zs : List Int) (w : World) (hab : a.block < w.heap.size) (hc : ∀ (i : Nat) z, zs[i]? = some z → w.cell? (a.add i) = some (.int .i64 z))
    (hz : ∀ z ∈ zs, 0 ≤ z ∧ z ≤ 100000) (hlen : word.length + 22 * zs.length ≤ 1000000) :
    Calls Tryz.prog 30 #[.string ⟨word.toArray⟩, .slice (some a) zs.length cap] w fun e w' => e = .returned (.string ⟨(word ++ tail zs).toArray⟩) ∧ Below w.heap.size w w' := by
  go_enter Tryz.func30, Tryz.ntmps30
  go_wp2
  go_loopw [0, 5] (fun s i wr => ∃ k : Nat, k ≤ zs.length ∧ i = .int .i64 k ∧ s = .string ⟨(word ++ tail (zs.take k)).toArray⟩ ∧ Below w.heap.size w wr) (fun _ i _ => zs.length - (intOf i).toNat)
  case atStart => exact ⟨0, Nat.zero_le _, rfl, by simp [tail], Below.refl _ _⟩
  case round =>
    obtain ⟨k, hk, rfl, rfl, hb⟩ := hrel
    have htl := tail_le (zs.take k) (fun z h => by have := hz z (List.mem_of_mem_take h); omega)
    have htk : (zs.take k).length ≤ k := List.length_take_le _ _
    have hTl : (word ++ tail (zs.take k)).length ≤ 1000000 := by rw [List.length_append]; omega
    obtain ⟨T, hT⟩ : ∃ T, T = word ++ tail (zs.take k) := ⟨_, rfl⟩
    rw [← hT] at hTl ⊢
    have HT : Hid (T = word ++ tail (zs.take k)) := hT
    clear hT htl htk
    by_cases hlt : k < zs.length
    · have hcell : wr.cell? (a.add k) = some (.int .i64 (zs[k]'hlt)) := (hb.cell (p := a.add k) (by rw [add_block]; exact hab)).trans (hc k _ (List.getElem?_eq_getElem hlt))
      have hzk := hz (zs[k]'hlt) (List.getElem_mem hlt)
      have hil := Lib.itoa_length_le (zs[k]'hlt) (by omega) (by omega)
      have hsn : Hid (zs.take (k + 1) = zs.take k ++ [zs[k]'hlt]) := List.take_succ_eq_append_getElem hlt
      have hdg := fun W => digits_int (zs[k]'hlt) hzk.1 hzk.2 W
      obtain ⟨z, hzz⟩ : ∃ z, z = zs[k]'hlt := ⟨_, rfl⟩
      rw [← hzz] at hcell hil hsn hdg
      obtain ⟨D, hD⟩ : ∃ D, D = Lib.itoa z := ⟨_, rfl⟩
      rw [← hD] at hil hdg
      have HD : Hid (D = Lib.itoa z) := hD
      clear hD hzz hzk
      go_wp2_with (go_at_call 45; refine (hdg _).mono ?_; rintro e w1 ⟨rfl, hw⟩; subst hw; clear hdg)
      go_roundw
      case rel =>
        refine ⟨k + 1, by omega, by go_num, ?_, hb⟩
        rw [hsn.out, tail_snoc, ← HD.out, ← List.append_assoc, ← HT.out]
        exact congrArg Value.string (ba_app3 T [32] D)
      case measure => simp [intOf]; omega
    · have hke : k = zs.length := by omega
      subst hke
      have HT2 : Hid (T = word ++ tail zs) := by have := HT.out; rwa [List.take_length] at this
      go_wp2
      go_ret
      exact ⟨ret_str HT2.out, hb⟩
set_option maxRecDepth 1000000 in
set_option maxHeartbeats 4000000 in
theorem row_none (word : List UInt8) (w : World) :
    Calls Tryz.prog 30 #[.string ⟨word.toArray⟩, .slice none 0 0] w fun e w' => e = .returned (.string ⟨(word ++ tail []).toArray⟩) ∧ Below w.heap.size w w' := by
  go_enter Tryz.func30, Tryz.ntmps30
  go_wp2
  refine wp_loop_rounds 1 ?_
  rw [rounds_succ]
  go_wp2
  go_ret
  exact ⟨by simp [tail], Below.refl _ _⟩
theorem row_any (word : List UInt8) (v : Value) (zs : List Int) (w : World) (hv : Ints w v zs)
    (hz : ∀ z ∈ zs, 0 ≤ z ∧ z ≤ 100000) (hlen : word.length + 22 * zs.length ≤ 1000000) :
    Calls Tryz.prog 30 #[.string ⟨word.toArray⟩, v] w fun e w' => e = .returned (.string ⟨(word ++ tail zs).toArray⟩) ∧ Below w.heap.size w w' := by
  rcases hv with ⟨rfl, rfl⟩ | ⟨a, cap, rfl, ha, hc⟩
  · exact row_none word w
  · exact row_some word a cap zs w ha hc hz hlen
end Go.Proofs.YtfneffmiignapaaGreatDoor
