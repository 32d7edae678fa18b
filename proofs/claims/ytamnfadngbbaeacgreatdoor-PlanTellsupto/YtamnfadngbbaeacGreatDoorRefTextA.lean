/-
  RefText, RefName, RefOp: joined into one text.
-/
import Derived.Test.YtamnfadngbbaeacGreatDoorBaseA
import Derived.Lib.Strings
import Derived.Lib.ItoaNum
import Derived.Below
namespace Go.Proofs.YtamnfadngbbaeacGreatDoor
open Go.RowKit

/-- A digit as a text. -/
def dgB (k : Nat) : ByteArray := ⟨#[UInt8.ofNat (48 + k)]⟩
theorem digit0 (w : World) : (Instr.slice 9 (.string ⟨#[48, 49, 50, 51, 52, 53, 54, 55, 56, 57]⟩) (some (.int .i64 0)) (some (.int .i64 1)) none).run Tryz.prog w = .ok (.string (dgB 0)) w := by kernel_rfl
theorem digit1 (w : World) : (Instr.slice 9 (.string ⟨#[48, 49, 50, 51, 52, 53, 54, 55, 56, 57]⟩) (some (.int .i64 1)) (some (.int .i64 2)) none).run Tryz.prog w = .ok (.string (dgB 1)) w := by kernel_rfl
theorem digit2 (w : World) : (Instr.slice 9 (.string ⟨#[48, 49, 50, 51, 52, 53, 54, 55, 56, 57]⟩) (some (.int .i64 2)) (some (.int .i64 3)) none).run Tryz.prog w = .ok (.string (dgB 2)) w := by kernel_rfl
theorem digit3 (w : World) : (Instr.slice 9 (.string ⟨#[48, 49, 50, 51, 52, 53, 54, 55, 56, 57]⟩) (some (.int .i64 3)) (some (.int .i64 4)) none).run Tryz.prog w = .ok (.string (dgB 3)) w := by kernel_rfl
theorem digit4 (w : World) : (Instr.slice 9 (.string ⟨#[48, 49, 50, 51, 52, 53, 54, 55, 56, 57]⟩) (some (.int .i64 4)) (some (.int .i64 5)) none).run Tryz.prog w = .ok (.string (dgB 4)) w := by kernel_rfl
theorem digit5 (w : World) : (Instr.slice 9 (.string ⟨#[48, 49, 50, 51, 52, 53, 54, 55, 56, 57]⟩) (some (.int .i64 5)) (some (.int .i64 6)) none).run Tryz.prog w = .ok (.string (dgB 5)) w := by kernel_rfl
theorem digit6 (w : World) : (Instr.slice 9 (.string ⟨#[48, 49, 50, 51, 52, 53, 54, 55, 56, 57]⟩) (some (.int .i64 6)) (some (.int .i64 7)) none).run Tryz.prog w = .ok (.string (dgB 6)) w := by kernel_rfl
theorem digit7 (w : World) : (Instr.slice 9 (.string ⟨#[48, 49, 50, 51, 52, 53, 54, 55, 56, 57]⟩) (some (.int .i64 7)) (some (.int .i64 8)) none).run Tryz.prog w = .ok (.string (dgB 7)) w := by kernel_rfl
theorem digit8 (w : World) : (Instr.slice 9 (.string ⟨#[48, 49, 50, 51, 52, 53, 54, 55, 56, 57]⟩) (some (.int .i64 8)) (some (.int .i64 9)) none).run Tryz.prog w = .ok (.string (dgB 8)) w := by kernel_rfl
theorem digit9 (w : World) : (Instr.slice 9 (.string ⟨#[48, 49, 50, 51, 52, 53, 54, 55, 56, 57]⟩) (some (.int .i64 9)) (some (.int .i64 10)) none).run Tryz.prog w = .ok (.string (dgB 9)) w := by kernel_rfl
theorem digit_slice (k : Nat) (z : Int) (hz : z = k) (h : k < 10) (w : World) : (Instr.slice 9 (.string ⟨#[48, 49, 50, 51, 52, 53, 54, 55, 56, 57]⟩) (some (.int .i64 z)) (some (.int .i64 (z + 1))) none).run Tryz.prog w = .ok (.string (dgB k)) w := by
  subst hz
  have : k = 0 ∨ k = 1 ∨ k = 2 ∨ k = 3 ∨ k = 4 ∨ k = 5 ∨ k = 6 ∨ k = 7 ∨ k = 8 ∨ k = 9 := by omega
  rcases this with rfl | rfl | rfl | rfl | rfl | rfl | rfl | rfl | rfl | rfl
  · exact digit0 w
  · exact digit1 w
  · exact digit2 w
  · exact digit3 w
  · exact digit4 w
  · exact digit5 w
  · exact digit6 w
  · exact digit7 w
  · exact digit8 w
  · exact digit9 w

set_option maxRecDepth 100000 in
set_option maxHeartbeats 4000000 in
theorem digits_one (n : Nat) (w : World) (h : n < 10) : Calls Tryz.prog 46 #[.int .i64 n] w fun e w' => e = .returned (.string ⟨(Lib.decDigits n).toArray⟩) ∧ w' = w := by
  have h' : (n : Int) < 10 := by omega
  have hs := digit_slice n n rfl h
  go_enter Tryz.func46, Tryz.ntmps46
  go_wp2
  go_ret
  exact ⟨by rw [Lib.decDigits_one h]; rfl, rfl⟩

theorem ba_app (a b : List UInt8) : (⟨a.toArray⟩ : ByteArray) ++ (⟨b.toArray⟩ : ByteArray) = ⟨(a ++ b).toArray⟩ := by
  apply ByteArray.ext
  apply Array.toList_inj.1
  simp
theorem ba_app3 (a b c : List UInt8) : (⟨a.toArray⟩ : ByteArray) ++ (⟨b.toArray⟩ : ByteArray) ++ (⟨c.toArray⟩ : ByteArray) = ⟨(a ++ (b ++ c)).toArray⟩ := by rw [ba_app, ba_app, List.append_assoc]
theorem ret_str {a b : List UInt8} (h : a = b) : Ending.returned (.string ⟨a.toArray⟩) = .returned (.string ⟨b.toArray⟩) := by rw [h]
theorem dec_short {n : Nat} (h : n ≤ 100000) : (Lib.decDigits n).length ≤ 20 := by
  rw [Lib.decDigits_length]
  exact Lib.nDigits_le20 n (by omega)

set_option maxRecDepth 100000 in
set_option maxHeartbeats 4000000 in
theorem digits_more (n : Nat) (w : World) (h : ¬ n < 10) (hn : n ≤ 100000) (ih : Calls Tryz.prog 46 #[.int .i64 ((n : Int) / 10)] w fun e w' => e = .returned (.string ⟨(Lib.decDigits (n / 10)).toArray⟩) ∧ w' = w) :
    Calls Tryz.prog 46 #[.int .i64 n] w fun e w' => e = .returned (.string ⟨(Lib.decDigits n).toArray⟩) ∧ w' = w := by
  have h' : ¬ (n : Int) < 10 := by omega
  have hs := digit_slice (n % 10) ((n : Int) % 10) (by omega) (by omega)
  have hd : Lib.decDigits n = Lib.decDigits (n / 10) ++ [UInt8.ofNat (48 + n % 10)] := by rw [Lib.decDigits, dif_neg h]
  have HD : Hid (Lib.decDigits n = Lib.decDigits (n / 10) ++ [UInt8.ofNat (48 + n % 10)]) := hd
  have hl := dec_short (n := n / 10) (by omega)
  have hdg : (dgB (n % 10)).size = 1 := rfl
  clear hd
  obtain ⟨D, hD⟩ : ∃ D, D = Lib.decDigits (n / 10) := ⟨_, rfl⟩
  rw [← hD] at ih hl
  have HE : Hid (D = Lib.decDigits (n / 10)) := hD
  clear hD
  go_enter Tryz.func46, Tryz.ntmps46
  go_wp2_with (go_at_call 46; refine ih.mono ?_; rintro e w1 ⟨rfl, hw⟩; subst hw; clear ih)
  go_ret
  refine ⟨?_, rfl⟩
  rw [HD.out, ← HE.out]
  exact congrArg (fun x => Ending.returned (Value.string x)) (ba_app D [UInt8.ofNat (48 + n % 10)])
theorem digits_any (n : Nat) (hn : n ≤ 100000) (w : World) : Calls Tryz.prog 46 #[.int .i64 n] w fun e w' => e = .returned (.string ⟨(Lib.decDigits n).toArray⟩) ∧ w' = w := by
  induction n using Nat.strongRecOn with
  | _ n ih =>
    by_cases h : n < 10
    · exact digits_one n w h
    · exact digits_more n w h hn (ih (n / 10) (by omega) (by omega))
theorem digits_int (z : Int) (h0 : 0 ≤ z) (h1 : z ≤ 100000) (w : World) : Calls Tryz.prog 46 #[.int .i64 z] w fun e w' => e = .returned (.string ⟨(Lib.itoa z).toArray⟩) ∧ w' = w := by
  obtain ⟨n, rfl⟩ : ∃ n : Nat, z = n := ⟨z.toNat, by omega⟩
  have := digits_any n (by omega) w
  rwa [show Lib.itoa (n : Int) = Lib.decDigits n from by unfold Lib.itoa; rw [if_neg (by omega)]; rfl]

set_option maxRecDepth 1000000 in
set_option maxHeartbeats 4000000 in
theorem row_some (word : List UInt8) (a : Addr) (cap : Nat) (zs : List Int) (w : World) (hab : a.block < w.heap.size) (hc : ∀ (i : Nat) z, zs[i]? = some z → w.cell? (a.add i) = some (.int .i64 z))
    (hz : ∀ z ∈ zs, 0 ≤ z ∧ z ≤ 100000) (hlen : word.length + 22 * zs.length ≤ 1000000) :
    Calls Tryz.prog 22 #[.string ⟨word.toArray⟩, .slice (some a) zs.length cap] w fun e w' => e = .returned (.string ⟨(word ++ tail zs).toArray⟩) ∧ Below w.heap.size w w' := by
  go_enter Tryz.func22, Tryz.ntmps22
  go_wp2
  go_loopw [0, 5] (fun s i wr => ∃ k : Nat, k ≤ zs.length ∧ i = .int .i64 k ∧ s = .string ⟨(word ++ tail (zs.take k)).toArray⟩ ∧ Below w.heap.size w wr) (fun _ i _ => zs.length - (intOf i).toNat)
  case atStart => exact ⟨0, Nat.zero_le _, rfl, by simp [tail], Below.refl _ _⟩
  case round =>
    obtain ⟨k, hk, rfl, rfl, hb⟩ := hrel
    have htl := tail_le (zs.take k) (fun z h => by have := hz z (List.mem_of_mem_take h); omega)
    have htk : (zs.take k).length ≤ k := List.length_take_le _ _
    have hTl : (word ++ tail (zs.take k)).length ≤ 1000000 := by rw [List.length_append]; omega
    obtain ⟨T, hT⟩ : ∃ T, T = word ++ tail (zs.take k) := ⟨_, rfl⟩
    rw [← hT] at hTl ⊢
    have HT : Hid (T = word ++ tail (zs.take k)) := hT
    clear hT htl htk
    by_cases hlt : k < zs.length
    · have hcell : wr.cell? (a.add k) = some (.int .i64 (zs[k]'hlt)) := (hb.cell (p := a.add k) (by rw [add_block]; exact hab)).trans (hc k _ (List.getElem?_eq_getElem hlt))
      have hzk := hz (zs[k]'hlt) (List.getElem_mem hlt)
      have hil := Lib.itoa_length_le (zs[k]'hlt) (by omega) (by omega)
      have hsn : Hid (zs.take (k + 1) = zs.take k ++ [zs[k]'hlt]) := List.take_succ_eq_append_getElem hlt
      have hdg := fun W => digits_int (zs[k]'hlt) hzk.1 hzk.2 W
      obtain ⟨z, hzz⟩ : ∃ z, z = zs[k]'hlt := ⟨_, rfl⟩
      rw [← hzz] at hcell hil hsn hdg
      obtain ⟨D, hD⟩ : ∃ D, D = Lib.itoa z := ⟨_, rfl⟩
      rw [← hD] at hil hdg
      have HD : Hid (D = Lib.itoa z) := hD
      clear hD hzz hzk
      go_wp2_with (go_at_call 46; refine (hdg _).mono ?_; rintro e w1 ⟨rfl, hw⟩; subst hw; clear hdg)
      go_roundw
      case rel =>
        refine ⟨k + 1, by omega, by go_num, ?_, hb⟩
        rw [hsn.out, tail_snoc, ← HD.out, ← List.append_assoc, ← HT.out]
        exact congrArg Value.string (ba_app3 T [32] D)
      case measure => simp [intOf]; omega
    · have hke : k = zs.length := by omega
      subst hke
      have HT2 : Hid (T = word ++ tail zs) := by have := HT.out; rwa [List.take_length] at this
      go_wp2
      go_ret
      exact ⟨ret_str HT2.out, hb⟩
set_option maxRecDepth 1000000 in
set_option maxHeartbeats 4000000 in
theorem row_none (word : List UInt8) (w : World) :
    Calls Tryz.prog 22 #[.string ⟨word.toArray⟩, .slice none 0 0] w fun e w' => e = .returned (.string ⟨(word ++ tail []).toArray⟩) ∧ Below w.heap.size w w' := by
  go_enter Tryz.func22, Tryz.ntmps22
  go_wp2
  refine wp_loop_rounds 1 ?_
  rw [rounds_succ]
  go_wp2
  go_ret
  exact ⟨by simp [tail], Below.refl _ _⟩
theorem row_any (word : List UInt8) (v : Value) (zs : List Int) (w : World) (hv : Ints w v zs)
    (hz : ∀ z ∈ zs, 0 ≤ z ∧ z ≤ 100000) (hlen : word.length + 22 * zs.length ≤ 1000000) :
    Calls Tryz.prog 22 #[.string ⟨word.toArray⟩, v] w fun e w' => e = .returned (.string ⟨(word ++ tail zs).toArray⟩) ∧ Below w.heap.size w w' := by
  rcases hv with ⟨rfl, rfl⟩ | ⟨a, cap, rfl, ha, hc⟩
  · exact row_none word w
  · exact row_some word a cap zs w ha hc hz hlen
end Go.Proofs.YtamnfadngbbaeacGreatDoor
namespace Go.Proofs.YtamnfadngbbaeacGreatDoor
open Go.RowKit

set_option maxRecDepth 1000000 in
set_option maxHeartbeats 8000000 in
theorem rname_any (n : Nat) (h1 : 1 ≤ n) (h2 : n ≤ 11) (w : World) : Calls Tryz.prog 52 #[.int .i64 n] w fun e w' => e = .returned (.string ⟨(nameB n).toArray⟩) ∧ Below w.heap.size w w' := by
  have h : n = 1 ∨ n = 2 ∨ n = 3 ∨ n = 4 ∨ n = 5 ∨ n = 6 ∨ n = 7 ∨ n = 8 ∨ n = 9 ∨ n = 10 ∨ n = 11 := by omega
  clear h1 h2
  rcases h with rfl | rfl | rfl | rfl | rfl | rfl | rfl | rfl | rfl | rfl | rfl
  all_goals
    go_enter Tryz.func52, Tryz.ntmps52
    go_wp2
    go_ret
    exact ⟨rfl, (Below.refl _ _).alloc (Nat.le_refl _) _⟩
end Go.Proofs.YtamnfadngbbaeacGreatDoor
namespace Go.Proofs.YtamnfadngbbaeacGreatDoor
open Go.RowKit

/-- What OpText says: the line, without its end. -/
def opT (o : O3) : List UInt8 := nameB o.1 ++ tail (numsB o)
theorem opT_line (o : O3) : opB o = opT o ++ [10] := rfl

set_option maxHeartbeats 4000000 in
set_option maxRecDepth 1000000 in
theorem optext_none (n : Nat) (a b : Int) (w : World) (hn : 10 ≤ n) (h2 : n ≤ 11) :
    Calls Tryz.prog 47 #[.agg #[.int .i64 n, .int .i64 a, .int .i64 b]] w fun e w' => e = .returned (.string ⟨(nameB n ++ tail []).toArray⟩) ∧ Below w.heap.size w w' := by
  have h' : ¬ (n : Int) < 10 := by omega
  have hnm := fun W => rname_any n (by omega) h2 W
  have hl := name_le n
  obtain ⟨nm, hnn⟩ : ∃ nm, nm = nameB n := ⟨_, rfl⟩
  rw [← hnn] at hnm hl ⊢
  clear hnn
  have hrow := fun W => row_any nm (.slice none 0 0) [] W (Or.inl ⟨rfl, rfl⟩) (by simp) (by simp; omega)
  go_enter Tryz.func47, Tryz.ntmps47
  go_wp2_with (first | (go_at_call 52; refine (hnm _).mono ?_; rintro e w1 ⟨rfl, b1⟩; clear hnm) | (go_at_call 22; refine (hrow _).mono ?_; rintro e w2 ⟨rfl, b2⟩; clear hrow))
  go_ret
  exact ⟨rfl, ((Below.refl _ w).alloc (Nat.le_refl _) _).trans ((b1.mono (by simp)).trans (b2.mono (by have := b1.size; simp at this; omega)))⟩

set_option maxHeartbeats 4000000 in
set_option maxRecDepth 1000000 in
theorem optext_jump (a b : Int) (w : World) (hb0 : 0 ≤ b ∧ b ≤ 999) :
    Calls Tryz.prog 47 #[.agg #[.int .i64 7, .int .i64 a, .int .i64 b]] w fun e w' => e = .returned (.string ⟨(nameB 7 ++ tail [b]).toArray⟩) ∧ Below w.heap.size w w' := by
  have hnm := fun W => rname_any 7 (by omega) (by omega) W
  have hl := name_le 7
  rw [show nameB ((7 : Nat) : Int) = nameB 7 from rfl] at hnm
  obtain ⟨nm, hnn⟩ : ∃ nm, nm = nameB 7 := ⟨_, rfl⟩
  rw [← hnn] at hnm hl ⊢
  clear hnn
  obtain ⟨ii, hi, hz0, hz1, hz2⟩ := info_parts infoIntC
  have hrow := fun W v (h : Ints W v [b]) => row_any nm v [b] W h (by simp; omega) (by simp; omega)
  have own0 : (w.alloc (.cells #[.int .i64 7, .int .i64 a, .int .i64 b] 73)).ownsRow (w.heap.size + 1) 3 1 (.slice none 0 0) ([] : List Int).length (([] : List Int).map (Value.int .i64)) := World.ownsRow_nil _ _ _ _
  go_enter Tryz.func47, Tryz.ntmps47
  go_wp2_with (at_builtin; refine wpList_append_own _ rfl _ _ 50 rfl (w.heap.size + 1) 3 ii (.int .i64 0) 1 8 Tryz.underlying50 hi hz0 hz1 hz2 rfl (by decide) _ _ _ rfl (own0.alloc _) ⟨w.heap.size + 1, 0, none⟩ 1 1 [.int .i64 b] rfl rfl ?c1A ?c2A ?c3A ?c4A ?c5A ?_)
  case c1A =>
    intro j u hj
    match j, hj with
    | 0, hj => simp at hj; subst hj; simp [Addr.add]
  case c2A => intro u hu; simp at hu; subst hu; rfl
  case c3A => unfold maxLen; simp
  case c4A => simp
  case c5A => simp
  intro v' w1 hown' hgrow _
  have hb1 : Below (w.heap.size + 1) (w.alloc (.cells #[.int .i64 7, .int .i64 a, .int .i64 b] 73)) w1 :=
    ((Below.refl _ _).alloc (by simp) _).grown hgrow (by simp) (fun j hj => (own0.lt j hj).1)
  have hown1 : w1.ownsRow (w.heap.size + 1) 3 1 v' [b].length ([b].map (Value.int .i64)) := by simpa using hown'
  have hv := ints_of_own hown1
  have c0 : w1.cell? ⟨w.heap.size, 0, none⟩ = some (.int .i64 7) := (hb1.cell (p := ⟨w.heap.size, 0, none⟩) (by simp)).trans (by simp)
  have hbb : Below w.heap.size w w1 := ((Below.refl _ w).alloc (Nat.le_refl _) _).trans (hb1.mono (by simp))
  have hiv : ∀ W, Below w1.heap.size w1 W → Ints W v' [b] := fun W hW => ints_all hv hW
  clear hown' hgrow own0 hown1 hv hb1
  go_wp2_with (first | (go_at_call 52; refine (hnm _).mono ?_; rintro e w2 ⟨rfl, b2⟩; clear hnm) | (go_at_call 22; refine (hrow _ _ (hiv _ b2)).mono ?_; rintro e w3 ⟨rfl, b3⟩; clear hrow))
  go_ret
  exact ⟨rfl, hbb.trans ((b2.mono hbb.size).trans (b3.mono (by have := b2.size; have := hbb.size; omega)))⟩

set_option maxHeartbeats 4000000 in
set_option maxRecDepth 1000000 in
theorem optext_two (n : Nat) (a b : Int) (w : World) (h1 : 1 ≤ n) (h2 : n < 10) (h7 : n ≠ 7) (ha0 : 0 ≤ a ∧ a ≤ 5) (hb0 : 0 ≤ b ∧ b ≤ 999) :
    Calls Tryz.prog 47 #[.agg #[.int .i64 n, .int .i64 a, .int .i64 b]] w fun e w' => e = .returned (.string ⟨(nameB n ++ tail [a, b]).toArray⟩) ∧ Below w.heap.size w w' := by
  have hnm := fun W => rname_any n (by omega) (by omega) W
  have hl := name_le n
  have h2' : (n : Int) < 10 := by omega
  have h7' : ((n : Int) == 7) = false := by simp; omega
  obtain ⟨nm, hnn⟩ : ∃ nm, nm = nameB n := ⟨_, rfl⟩
  rw [← hnn] at hnm hl ⊢
  clear hnn
  obtain ⟨ii, hi, hz0, hz1, hz2⟩ := info_parts infoIntC
  have hrow := fun W v (h : Ints W v [a, b]) => row_any nm v [a, b] W h (by simp; omega) (by simp; omega)
  have own0 : (w.alloc (.cells #[.int .i64 n, .int .i64 a, .int .i64 b] 73)).ownsRow (w.heap.size + 1) 3 1 (.slice none 0 0) ([] : List Int).length (([] : List Int).map (Value.int .i64)) := World.ownsRow_nil _ _ _ _
  go_enter Tryz.func47, Tryz.ntmps47
  go_wp2_with (at_builtin; refine wpList_append_own _ rfl _ _ 50 rfl (w.heap.size + 1) 3 ii (.int .i64 0) 1 8 Tryz.underlying50 hi hz0 hz1 hz2 rfl (by decide) _ _ _ rfl (own0.alloc _) ⟨w.heap.size + 1, 0, none⟩ 1 1 [.int .i64 a] rfl rfl ?c1A ?c2A ?c3A ?c4A ?c5A ?_)
  case c1A =>
    intro j u hj
    match j, hj with
    | 0, hj => simp at hj; subst hj; simp [Addr.add]
  case c2A => intro u hu; simp at hu; subst hu; rfl
  case c3A => unfold maxLen; simp
  case c4A => simp
  case c5A => simp
  intro v' w1 hown' hgrow _
  have hb1 : Below (w.heap.size + 1) (w.alloc (.cells #[.int .i64 n, .int .i64 a, .int .i64 b] 73)) w1 :=
    ((Below.refl _ _).alloc (by simp) _).grown hgrow (by simp) (fun j hj => (own0.lt j hj).1)
  have hown1 : w1.ownsRow (w.heap.size + 1) 3 1 v' [a].length ([a].map (Value.int .i64)) := by simpa using hown'
  have c0 : w1.cell? ⟨w.heap.size, 0, none⟩ = some (.int .i64 n) := (hb1.cell (p := ⟨w.heap.size, 0, none⟩) (by simp)).trans (by simp)
  have c2 : w1.cell? ⟨w.heap.size, 2, none⟩ = some (.int .i64 b) := (hb1.cell (p := ⟨w.heap.size, 2, none⟩) (by simp)).trans (by simp)
  have hsz1 : w.heap.size + 1 ≤ w1.heap.size := by have := hb1.size; simpa using this
  clear hown' hgrow own0
  go_wp2_with (at_builtin; refine wpList_append_own _ rfl _ _ 50 rfl (w.heap.size + 1) 3 ii (.int .i64 0) 1 8 Tryz.underlying50 hi hz0 hz1 hz2 rfl (by decide) _ _ _ rfl (hown1.alloc _) ⟨w1.heap.size, 0, none⟩ 1 1 [.int .i64 b] rfl rfl ?c1B ?c2B ?c3B ?c4B ?c5B ?_)
  case c1B =>
    intro j u hj
    match j, hj with
    | 0, hj => simp at hj; subst hj; simp [Addr.add]
  case c2B => intro u hu; simp at hu; subst hu; rfl
  case c3B => unfold maxLen; simp only [List.length_cons, List.length_nil]; omega
  case c4B => simp only [List.length_cons, List.length_nil]; omega
  case c5B => simp; omega
  intro v2 w2 hown2' hgrow2 _
  have hb2 : Below (w.heap.size + 1) (w.alloc (.cells #[.int .i64 n, .int .i64 a, .int .i64 b] 73)) w2 :=
    (hb1.alloc hsz1 _).grown hgrow2 (by simp; omega) (fun j hj => (hown1.lt j hj).1)
  have hown2 : w2.ownsRow (w.heap.size + 1) 3 1 v2 [a, b].length ([a, b].map (Value.int .i64)) := by simpa using hown2'
  have hv := ints_of_own hown2
  have d0 : w2.cell? ⟨w.heap.size, 0, none⟩ = some (.int .i64 n) := (hb2.cell (p := ⟨w.heap.size, 0, none⟩) (by simp)).trans (by simp)
  have hbb : Below w.heap.size w w2 := ((Below.refl _ w).alloc (Nat.le_refl _) _).trans (hb2.mono (by simp))
  have hiv : ∀ W, Below w2.heap.size w2 W → Ints W v2 [a, b] := fun W hW => ints_all hv hW
  clear hown2' hgrow2 hown1 hown2 hv hb1 hb2 c0 c2
  go_wp2_with (first | (go_at_call 52; refine (hnm _).mono ?_; rintro e w3 ⟨rfl, b3⟩; clear hnm) | (go_at_call 22; refine (hrow _ _ (hiv _ b3)).mono ?_; rintro e w4 ⟨rfl, b4⟩; clear hrow))
  go_ret
  exact ⟨rfl, hbb.trans ((b3.mono hbb.size).trans (b4.mono (by have := b3.size; have := hbb.size; omega)))⟩

theorem optext_any (o : O3) (w : World) (h1 : 1 ≤ o.1) (h2 : o.1 ≤ 11) (ha : 0 ≤ o.2.1 ∧ o.2.1 ≤ 5) (hb : 0 ≤ o.2.2 ∧ o.2.2 ≤ 999) :
    Calls Tryz.prog 47 #[.agg #[.int .i64 o.1, .int .i64 o.2.1, .int .i64 o.2.2]] w fun e w' => e = .returned (.string ⟨(opT o).toArray⟩) ∧ Below w.heap.size w w' := by
  obtain ⟨n, a, b⟩ := o
  obtain ⟨m, rfl⟩ : ∃ m : Nat, n = m := ⟨n.toNat, by simp at h1; omega⟩
  simp only at h1 h2 ha hb ⊢
  unfold opT numsB
  simp only
  by_cases h7 : m = 7
  · subst h7
    exact optext_jump a b w hb
  · rw [if_neg (by omega)]
    by_cases h10 : m < 10
    · rw [if_neg (by omega)]
      exact optext_two m a b w (by omega) h10 h7 ha hb
    · rw [if_pos (by omega)]
      exact optext_none m a b w (by omega) (by omega)

theorem opT_le {o : O3} (ha : 0 ≤ o.2.1 ∧ o.2.1 ≤ 5) (hb : 0 ≤ o.2.2 ∧ o.2.2 ≤ 999) : (opT o).length ≤ 50 := by
  have := op_le (o := o) ha hb
  rw [opT_line, List.length_append] at this
  simp at this
  omega

set_option maxRecDepth 1000000 in
set_option maxHeartbeats 4000000 in
theorem codetext_good (l : List O3) (b off cap : Nat) (w : World) (hk0 : (chk l).2 = 0) (hlt : b < w.heap.size)
    (hc : ∀ (i : Nat) o, l[i]? = some o → w.cell? ⟨b, off + i * 3, none⟩ = some (.int .i64 o.1) ∧ w.cell? ⟨b, off + i * 3 + 1, none⟩ = some (.int .i64 o.2.1) ∧ w.cell? ⟨b, off + i * 3 + 2, none⟩ = some (.int .i64 o.2.2)) :
    Calls Tryz.prog 23 #[.slice (some ⟨b, off, none⟩) l.length cap] w fun e w' => e = .returned (.string ⟨(textB l).toArray⟩) ∧ Below w.heap.size w w' := by
  obtain ⟨hz0, hz1, hz2⟩ := chk_zero hk0
  clear hk0
  go_enter Tryz.func23, Tryz.ntmps23
  go_wp2
  go_loopw [3, 4] (fun s i wr => ∃ k : Nat, k ≤ l.length ∧ i = .int .i64 k ∧ s = .string ⟨(textB (l.take k)).toArray⟩ ∧ Below w.heap.size w wr) (fun _ i _ => l.length - (intOf i).toNat)
  case atStart => exact ⟨0, Nat.zero_le _, rfl, by simp [textB], Below.refl _ _⟩
  case round =>
    obtain ⟨k, hk, rfl, rfl, hb⟩ := hrel
    have hsm : ∀ o ∈ l.take k, ok3 20 o = true ∨ (0 ≤ o.2.1 ∧ o.2.1 ≤ 5 ∧ 0 ≤ o.2.2 ∧ o.2.2 ≤ 999) := fun o ho => Or.inr (by
      have := ok3_small (by omega) (hz2 o (List.mem_of_mem_take ho))
      omega)
    have htl := text_le hsm
    have htk : (l.take k).length ≤ k := List.length_take_le _ _
    clear hsm
    have hTl : (textB (l.take k)).length ≤ 1000 := by omega
    obtain ⟨T, hT⟩ : ∃ T, T = textB (l.take k) := ⟨_, rfl⟩
    rw [← hT] at hTl ⊢
    have HT : Hid (T = textB (l.take k)) := hT
    clear hT htl htk
    by_cases hkl : k < l.length
    · obtain ⟨o, ho⟩ : ∃ o, l[k]? = some o := ⟨l[k], List.getElem?_eq_getElem hkl⟩
      have hom : o ∈ l := List.mem_of_getElem? ho
      have hos := ok3_small (by omega) (hz2 o hom)
      obtain ⟨o1, o2, o3, o4, o5, o6⟩ := hos
      have HS : Hid (l.take (k + 1) = l.take k ++ [o]) := by
        have := List.take_succ_eq_append_getElem hkl
        rw [List.getElem?_eq_getElem hkl] at ho
        rw [Option.some.inj ho] at this
        exact this
      obtain ⟨c0, c1, c2⟩ := hc k o ho
      clear ho hom
      have d0 : wr.cell? ⟨b, off + k * 3, none⟩ = some (.int .i64 o.1) := (hb.cell (p := ⟨b, _, none⟩) hlt).trans c0
      have d1 : wr.cell? ⟨b, off + k * 3 + 1, none⟩ = some (.int .i64 o.2.1) := (hb.cell (p := ⟨b, _, none⟩) hlt).trans c1
      have d2 : wr.cell? ⟨b, off + k * 3 + 2, none⟩ = some (.int .i64 o.2.2) := (hb.cell (p := ⟨b, _, none⟩) hlt).trans c2
      clear c0 c1 c2
      have hol := opT_le (o := o) ⟨o3, o4⟩ ⟨o5, o6⟩
      have hot := fun W => optext_any o W o1 o2 ⟨o3, o4⟩ ⟨o5, o6⟩
      obtain ⟨D, hD⟩ : ∃ D, D = opT o := ⟨_, rfl⟩
      rw [← hD] at hol hot
      have HD : Hid (D = opT o) := hD
      clear hD
      go_wp2_with (go_at_call 47; refine (hot _).mono ?_; rintro e w1 ⟨rfl, b1⟩; clear hot)
      go_roundw
      case rel =>
        refine ⟨k + 1, by omega, by go_num, ?_, hb.trans (b1.mono hb.size)⟩
        rw [HS.out, textB_snoc, opT_line, ← HD.out, ← HT.out]
        exact congrArg Value.string (ba_app3 T D [10])
      case measure => simp [intOf]; omega
    · have hke : k = l.length := by omega
      subst hke
      have HT2 : Hid (T = textB l) := by have := HT.out; rwa [List.take_length] at this
      go_wp2
      go_ret
      exact ⟨ret_str HT2.out, hb⟩
theorem codetext_any (v : Value) (l : List O3) (w : World) (h : Ops w v l) (hk0 : (chk l).2 = 0) :
    Calls Tryz.prog 23 #[v] w fun e w' => e = .returned (.string ⟨(textB l).toArray⟩) ∧ Below w.heap.size w w' := by
  rcases h with ⟨rfl, ao, cap, rfl⟩ | ⟨b, off, cap, rfl, hlt, hc⟩
  · exact absurd hk0 (by decide)
  · exact codetext_good l b off cap w hk0 hlt hc
end Go.Proofs.YtamnfadngbbaeacGreatDoor
