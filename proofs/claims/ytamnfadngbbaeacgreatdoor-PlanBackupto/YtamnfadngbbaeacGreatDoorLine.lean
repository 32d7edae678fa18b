/-
  words.Line: a word, and numbers, a blank ahead of each, ended by byte 10.
-/
import Derived.Test.YtamnfadngbbaeacGreatDoorKeep
namespace Go.Proofs.YtamnfadngbbaeacGreatDoor
open Go.RowKit

theorem room4 (word : ByteArray) (t l : List UInt8) (x : Value) (h : word.size + t.length + 1 + l.length ≤ 140737488355328) :
    (Lib.byteCells (word.data.toList ++ t) ++ [x]).length + (ByteArray.mk l.toArray).size ≤ 140737488355328 := by
  have hw : word.data.toList.length = word.size := by simp
  rw [List.length_append, Lib.byteCells_length, List.length_append, ba_size, hw]
  simp only [List.length_cons, List.length_nil]
  omega
theorem cells_next (word : List UInt8) (zs : List Int) (z : Int) :
    Lib.byteCells (word ++ tail (zs ++ [z])) = (Lib.byteCells (word ++ tail zs) ++ [.int .u8 32]) ++ Lib.strCells ⟨(Lib.itoa z).toArray⟩ := by
  simp [tail_snoc, Lib.byteCells, Lib.strCells]

set_option maxHeartbeats 4000000 in
set_option maxRecDepth 1000000 in
theorem line_some (word : ByteArray) (a : Addr) (cap : Nat) (zs : List Int) (w : World) (hp : Pow10 w) (hab : a.block < w.heap.size) (hc : ∀ (i : Nat) z, zs[i]? = some z → w.cell? (a.add i) = some (.int .i64 z))
    (hz : ∀ z ∈ zs, -9223372036854775808 ≤ z ∧ z ≤ 9223372036854775807) (hlen : word.size + 22 * zs.length + 1 ≤ 140737488355328) :
    Calls Tryz.prog 49 #[.string word, .slice (some a) zs.length cap] w fun e w' => e = .returned (.string ⟨(lineB word.data.toList zs).toArray⟩) ∧ Below w.heap.size w w' := by
  go_enter Tryz.func49, Tryz.ntmps49
  go_wp2_with (go_at_call 24; refine (writeString_any w.heap.size w.heap.size [] word _ (Lib.IsBuilderF.of (Lib.fresh_isBuilder 63 5 w)) (by simp; omega) (by simp)).mono ?_)
  rintro e w1 ⟨rfl, h1, b1, _⟩
  have b1' : Below w.heap.size w w1 := ((Below.refl _ w).alloc (Nat.le_refl _) _).trans b1
  clear b1
  go_wp2
  go_loopw [12] (fun i wr => ∃ k : Nat, k ≤ zs.length ∧ i = .int .i64 k ∧ Lib.IsBuilderF 63 5 w.heap.size w.heap.size (Lib.byteCells (word.data.toList ++ tail (zs.take k))) wr ∧ Below w.heap.size w wr) (fun i _ => zs.length - (intOf i).toNat)
  case atStart => exact ⟨0, Nat.zero_le _, rfl, Or.inr (by simpa [tail, Lib.strCells_eq] using h1), b1'⟩
  case round =>
    obtain ⟨k, hk, rfl, hI, hb⟩ := hrel
    have hsz := hb.size
    have htl := tail_le (zs.take k) (fun z h => hz z (List.mem_of_mem_take h))
    have htk : (zs.take k).length ≤ k := List.length_take_le _ _
    have hwl : word.data.toList.length = word.size := by simp
    by_cases hlt : k < zs.length
    · have hcell : wr.cell? (a.add k) = some (.int .i64 (zs[k]'hlt)) := (hb.cell (p := a.add k) (by rw [add_block]; exact hab)).trans (hc k _ (List.getElem?_eq_getElem hlt))
      have hzk := hz (zs[k]'hlt) (List.getElem_mem hlt)
      have hil := Lib.itoa_length_le _ hzk.1 hzk.2
      have hsn : Hid (zs.take (k + 1) = zs.take k ++ [zs[k]'hlt]) := List.take_succ_eq_append_getElem hlt
      go_wp2_with (go_at_call 77; refine (writeByte_any w.heap.size w.heap.size _ 32 _ hI (by rw [Lib.byteCells_length, List.length_append]; omega) hsz).mono ?_)
      rintro e w2 ⟨rfl, h2, b2, _⟩
      have hb2 := hb.trans b2
      have hp2 : Pow10 w2 := hp.all hb2
      have hsz2 := hb2.size
      go_wp2_with (go_at_call 78; refine (itoa_any _ hzk.1 hzk.2 _ hp2).mono ?_)
      rintro e w3 ⟨rfl, b3⟩
      have h3 := bld_all h2 b3
      have hb3 := hb2.trans (b3.mono hsz2)
      have hsz3 := hb3.size
      have hl4 := room4 word (tail (zs.take k)) (Lib.itoa (zs[k]'hlt)) (.int .u8 32) (by omega)
      go_wp2_with (go_at_call 24; refine (writeString_any w.heap.size w.heap.size _ _ _ (Or.inr h3) hl4 hsz3).mono ?_)
      rintro e w4 ⟨rfl, h4, b4, _⟩
      have hb4 := hb3.trans b4
      go_wp2
      go_roundw
      case rel => exact ⟨k + 1, by omega, by go_num, by rw [hsn.out, cells_next]; exact Or.inr h4, hb4⟩
      case measure => simp [intOf]; omega
    · have hke : k = zs.length := by omega
      subst hke
      rw [List.take_length] at hI htl
      go_wp2_with (go_at_call 77; refine (writeByte_any w.heap.size w.heap.size _ 10 _ hI (by rw [Lib.byteCells_length, List.length_append]; omega) hsz).mono ?_)
      rintro e w2 ⟨rfl, h2, b2, _⟩
      have hb2 := hb.trans b2
      have hsz2 := hb2.size
      have h2' : Lib.IsBuilderF 63 5 w.heap.size w.heap.size (Lib.byteCells (lineB word.data.toList zs)) w2 := by
        unfold lineB
        rw [Lib.byteCells_append]
        exact Or.inr h2
      go_wp2_with (go_at_call 27; refine (Tryz.Builder_String_any_k w.heap.size w.heap.size _ _ h2' hsz2).mono ?_)
      rintro e w3 ⟨rfl, _, b3, _⟩
      go_wp2
      go_ret
      exact ⟨rfl, hb2.trans b3⟩

set_option maxHeartbeats 4000000 in
set_option maxRecDepth 1000000 in
theorem line_none (word : ByteArray) (w : World) (hlen : word.size + 1 ≤ 140737488355328) :
    Calls Tryz.prog 49 #[.string word, .slice none 0 0] w fun e w' => e = .returned (.string ⟨(lineB word.data.toList []).toArray⟩) ∧ Below w.heap.size w w' := by
  go_enter Tryz.func49, Tryz.ntmps49
  go_wp2_with (go_at_call 24; refine (writeString_any w.heap.size w.heap.size [] word _ (Lib.IsBuilderF.of (Lib.fresh_isBuilder 63 5 w)) (by simp; omega) (by simp)).mono ?_)
  rintro e w1 ⟨rfl, h1, b1, _⟩
  have hb : Below w.heap.size w w1 := ((Below.refl _ w).alloc (Nat.le_refl _) _).trans b1
  have hsz := hb.size
  clear b1
  go_wp2
  refine wp_loop_rounds 1 ?_
  rw [rounds_succ]
  go_wp2_with (go_at_call 77; refine (writeByte_any w.heap.size w.heap.size _ 10 _ (Or.inr h1) (by simp [Lib.strCells_length]; omega) hsz).mono ?_)
  rintro e w2 ⟨rfl, h2, b2, _⟩
  have hb2 := hb.trans b2
  have hsz2 := hb2.size
  have h2' : Lib.IsBuilderF 63 5 w.heap.size w.heap.size (Lib.byteCells (lineB word.data.toList [])) w2 := by
    unfold lineB
    rw [Lib.byteCells_append, Lib.byteCells_append]
    exact Or.inr (by simpa [tail, Lib.strCells_eq, Lib.byteCells] using h2)
  go_wp2_with (go_at_call 27; refine (Tryz.Builder_String_any_k w.heap.size w.heap.size _ _ h2' hsz2).mono ?_)
  rintro e w3 ⟨rfl, _, b3, _⟩
  go_wp2
  go_ret
  exact ⟨rfl, hb2.trans b3⟩

theorem line_any (word : ByteArray) (v : Value) (zs : List Int) (w : World) (hp : Pow10 w) (hv : Ints w v zs)
    (hz : ∀ z ∈ zs, -9223372036854775808 ≤ z ∧ z ≤ 9223372036854775807) (hlen : word.size + 22 * zs.length + 1 ≤ 140737488355328) :
    Calls Tryz.prog 49 #[.string word, v] w fun e w' => e = .returned (.string ⟨(lineB word.data.toList zs).toArray⟩) ∧ Below w.heap.size w w' := by
  rcases hv with ⟨rfl, rfl⟩ | ⟨a, cap, rfl, ha, hc⟩
  · exact line_none word w (by simpa using hlen)
  · exact line_some word a cap zs w hp ha hc hz hlen
end Go.Proofs.YtamnfadngbbaeacGreatDoor
