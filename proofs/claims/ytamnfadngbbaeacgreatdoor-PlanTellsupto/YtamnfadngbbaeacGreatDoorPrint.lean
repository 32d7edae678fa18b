/-
  code.Print: the text of code that is right; of any code.
-/
import Derived.Test.YtamnfadngbbaeacGreatDoorOpLine
import Derived.Test.YtamnfadngbbaeacGreatDoorCodeA
namespace Go.Proofs.YtamnfadngbbaeacGreatDoor
open Go.RowKit

theorem cells_line (t l : List UInt8) : Lib.byteCells (t ++ l) = Lib.byteCells t ++ Lib.strCells ⟨l.toArray⟩ := by
  simp [Lib.byteCells, Lib.strCells]

set_option maxRecDepth 1000000 in
set_option maxHeartbeats 4000000 in
theorem print_good (l : List O3) (b off cap : Nat) (w : World) (ht : Tabs w) (hk0 : (chk l).2 = 0) (hlt : b < w.heap.size)
    (hc : ∀ (i : Nat) o, l[i]? = some o → w.cell? ⟨b, off + i * 3, none⟩ = some (.int .i64 o.1) ∧ w.cell? ⟨b, off + i * 3 + 1, none⟩ = some (.int .i64 o.2.1) ∧ w.cell? ⟨b, off + i * 3 + 2, none⟩ = some (.int .i64 o.2.2)) :
    Calls Tryz.prog 26 #[.slice (some ⟨b, off, none⟩) l.length cap] w fun e w' => e = .returned (.tuple #[.string ⟨(textB l).toArray⟩, .nilIface]) ∧ Below w.heap.size w w' := by
  have hz := chk_zero hk0
  obtain ⟨hz0, hz1, hz2⟩ := hz
  have hck := check_any (.slice (some ⟨b, off, none⟩) l.length cap) l w ht.forms (Or.inr ⟨b, off, cap, rfl, hlt, hc⟩)
  rw [chk_fst hk0, show errV (0, (0 : Int)).2 = .nilIface from rfl] at hck
  have HK : Hid ((chk l).2 = 0) := hk0
  clear hk0
  go_enter Tryz.func26, Tryz.ntmps26
  go_wp2_with (go_at_call 44; refine hck.mono ?_; rintro e w1 ⟨rfl, b1⟩; clear hck)
  go_loopw [19] (fun i wr => ∃ k : Nat, k ≤ l.length ∧ i = .int .i64 k ∧ Lib.IsBuilderF 63 5 w1.heap.size w1.heap.size (Lib.byteCells (textB (l.take k))) wr ∧ Below w1.heap.size w1 wr) (fun i _ => l.length - (intOf i).toNat)
  case atStart => exact ⟨0, Nat.zero_le _, rfl, Lib.IsBuilderF.of (Lib.fresh_isBuilder 63 5 w1), (Below.refl _ w1).alloc (Nat.le_refl _) _⟩
  case round =>
    obtain ⟨k, hk, rfl, hI, hb⟩ := hrel
    have hsz := hb.size
    have hsm : ∀ o ∈ l.take k, ok3 20 o = true ∨ (0 ≤ o.2.1 ∧ o.2.1 ≤ 5 ∧ 0 ≤ o.2.2 ∧ o.2.2 ≤ 999) := fun o ho => Or.inr (by
      have := ok3_small (by omega) (hz2 o (List.mem_of_mem_take ho))
      omega)
    have htl := text_le hsm
    have htk : (l.take k).length ≤ k := List.length_take_le _ _
    clear hsm
    have bw : Below w.heap.size w wr := b1.trans (hb.mono b1.size)
    have ht' : Tabs wr := ht.all bw
    by_cases hkl : k < l.length
    · obtain ⟨o, ho⟩ : ∃ o, l[k]? = some o := ⟨l[k], List.getElem?_eq_getElem hkl⟩
      have hom : o ∈ l := List.mem_of_getElem? ho
      have hos := ok3_small (by omega) (hz2 o hom)
      obtain ⟨o1, o2, o3, o4, o5, o6⟩ := hos
      have HS : Hid (l.take (k + 1) = l.take k ++ [o]) := by
        have := List.take_succ_eq_append_getElem hkl
        rw [List.getElem?_eq_getElem hkl] at ho
        rw [Option.some.inj ho] at this
        exact this
      obtain ⟨c0, c1, c2⟩ := hc k o ho
      clear ho hom
      have d0 : wr.cell? ⟨b, off + k * 3, none⟩ = some (.int .i64 o.1) := (bw.cell (p := ⟨b, _, none⟩) hlt).trans c0
      have d1 : wr.cell? ⟨b, off + k * 3 + 1, none⟩ = some (.int .i64 o.2.1) := (bw.cell (p := ⟨b, _, none⟩) hlt).trans c1
      have d2 : wr.cell? ⟨b, off + k * 3 + 2, none⟩ = some (.int .i64 o.2.2) := (bw.cell (p := ⟨b, _, none⟩) hlt).trans c2
      clear c0 c1 c2
      have hol := op_le (o := o) ⟨o3, o4⟩ ⟨o5, o6⟩
      go_wp2_with (go_at_call 50; refine (opline_any o _ (ht'.alloc _) o1 o2 ⟨o3, o4⟩ ⟨o5, o6⟩).mono ?_)
      rintro e w3 ⟨rfl, b3⟩
      have b3' : Below wr.heap.size wr w3 := ((Below.refl _ wr).alloc (Nat.le_refl _) _).trans (b3.mono (by simp))
      have h3 := isb_all hI b3'
      have hb3 := hb.trans (b3'.mono hsz)
      have hsz3 := hb3.size
      have hl4 : (Lib.byteCells (textB (l.take k))).length + (ByteArray.mk (opB o).toArray).size ≤ 140737488355328 := by
        rw [Lib.byteCells_length, ba_size]
        omega
      go_wp2_with (go_at_call 24; refine (writeString_any w1.heap.size w1.heap.size _ _ _ h3 hl4 hsz3).mono ?_)
      rintro e w4 ⟨rfl, h4, b4, _⟩
      have hb4 := hb3.trans b4
      clear d0 d1 d2
      go_wp2
      go_roundw
      case rel => exact ⟨k + 1, by omega, by go_num, by rw [HS.out, textB_snoc, cells_line]; exact Or.inr h4, hb4⟩
      case measure => simp [intOf]; omega
    · have hke : k = l.length := by omega
      subst hke
      rw [List.take_length] at hI
      go_wp2_with (go_at_call 27; refine (Tryz.Builder_String_any_k w1.heap.size w1.heap.size _ _ hI hsz).mono ?_)
      rintro e w3 ⟨rfl, _, b3, _⟩
      go_wp2
      go_ret2
      exact ⟨rfl, b1.trans ((hb.trans b3).mono b1.size)⟩

set_option maxRecDepth 1000000 in
set_option maxHeartbeats 4000000 in
theorem print_bad (v : Value) (l : List O3) (w : World) (ht : Tabs w) (hk0 : (chk l).2 ≠ 0) (h : Ops w v l) :
    Calls Tryz.prog 26 #[v] w fun e w' => e = .returned (.tuple #[.string ⟨#[]⟩, errV (chk l).2]) ∧ Below w.heap.size w w' := by
  have hck := check_any v l w ht.forms h
  obtain ⟨ao, cap, rfl⟩ := h.form
  clear h
  rw [show errV (chk l).2 = .iface 52 (.int .i64 (chk l).2) from by unfold errV; rw [if_neg hk0]] at hck ⊢
  clear hk0
  go_enter Tryz.func26, Tryz.ntmps26
  go_wp2_with (go_at_call 44; refine hck.mono ?_; rintro e w1 ⟨rfl, b1⟩; clear hck)
  go_ret2
  exact ⟨rfl, b1⟩

def textOf (l : List O3) : List UInt8 := if (chk l).2 = 0 then textB l else []
theorem print_any (v : Value) (l : List O3) (w : World) (ht : Tabs w) (h : Ops w v l) :
    Calls Tryz.prog 26 #[v] w fun e w' => e = .returned (.tuple #[.string ⟨(textOf l).toArray⟩, errV (chk l).2]) ∧ Below w.heap.size w w' := by
  by_cases h0 : (chk l).2 = 0
  · have hz := chk_zero h0
    rcases h with ⟨rfl, _⟩ | ⟨b, off, cap, rfl, hlt, hc⟩
    · simp at hz
    · have := print_good l b off cap w ht h0 hlt hc
      unfold textOf
      rw [if_pos h0, h0]
      exact this
  · unfold textOf
    rw [if_neg h0]
    exact print_bad v l w ht h0 h
end Go.Proofs.YtamnfadngbbaeacGreatDoor
