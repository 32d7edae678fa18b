/-
  trace.Print: events as text.
-/
import Derived.Test.YtfconbblnmbnpahGreatDoorTcLine
import Derived.Test.YtfconbblnmbnpahGreatDoorJc6
import Derived.Test.YtfconbblnmbnpahGreatDoorJc3
namespace Go.Proofs.YtfconbblnmbnpahGreatDoor
open Go.RowKit

theorem ev_cells_line (t l : List UInt8) : Lib.byteCells (t ++ l) = Lib.byteCells t ++ Lib.strCells ⟨l.toArray⟩ := by
  simp [Lib.byteCells, Lib.strCells]
theorem evB_snoc (l : List W4) (e : W4) : evB (l ++ [e]) = evB l ++ (evL e ++ [10]) := by
  unfold evB endL
  rw [List.map_append, List.flatMap_append]
  simp
theorem evB_next {l : List W4} {k : Nat} {e : W4} (h : l[k]? = some e) : evB (l.take (k + 1)) = evB (l.take k) ++ (evL e ++ [10]) := by
  obtain ⟨hk, rfl⟩ := List.getElem?_eq_some_iff.1 h
  rw [List.take_succ_eq_append_getElem hk, evB_snoc]
theorem evB_take_len {l : List W4} (h : evchk l = 0) (k : Nat) : (evB (l.take k)).length ≤ 202000 := by
  refine evB_len ?_
  obtain ⟨h1, h2⟩ := evchk_zero.1 h
  refine evchk_zero.2 ⟨by rw [List.length_take]; omega, fun e he => h2 e (List.mem_of_mem_take he)⟩
set_option maxRecDepth 1000000 in
set_option maxHeartbeats 4000000 in
theorem tprint_ok (l : List W4) (v : Value) (w : World) (hp : Pow10 w) (hl : Wrs w v l) (h0 : evchk l = 0) :
    Calls Tryz.prog 15 #[v] w fun e w' => e = .returned (.tuple #[.string ⟨(evB l).toArray⟩, .nilIface]) ∧ Below w.heap.size w w' := by
  have q := evcheck_any l v w hl
  rw [h0, show wErr 0 = .nilIface from rfl] at q
  obtain ⟨hlen, hgood⟩ := evchk_zero.1 h0
  have HK : Hid (∀ e ∈ l, evBad e = 0) := hgood
  have HLe : Hid (∀ k, (evB (l.take k)).length ≤ 202000) := fun k => evB_take_len h0 k
  obtain ⟨ao, cap, rfl⟩ := hl.form
  have HL : Hid (Wrs w (.slice ao l.length cap) l) := hl
  clear hl h0 hgood
  go_enter Tryz.func15, Tryz.ntmps15
  go_wp2_with (go_at_call 40; refine q.mono ?_; rintro e w1 ⟨rfl, b1⟩; clear q)
  go_loopw [15] (fun i wr => ∃ k : Nat, k ≤ l.length ∧ i = .int .i64 k ∧ Lib.IsBuilderF 99 5 w1.heap.size w1.heap.size (Lib.byteCells (evB (l.take k))) wr ∧ Below w1.heap.size w1 wr) (fun i _ => l.length - (intOf i).toNat)
  case atStart => exact ⟨0, Nat.zero_le _, rfl, Lib.IsBuilderF.of (Lib.fresh_isBuilder 99 5 w1), (Below.refl _ w1).alloc (Nat.le_refl _) _⟩
  case round =>
    obtain ⟨k, hk, rfl, hI, hb⟩ := hrel
    have hsz := hb.size
    have htl := HLe.out k
    have bw : Below w.heap.size w wr := b1.trans (hb.mono b1.size)
    by_cases hkl : k < l.length
    · obtain ⟨b, off, x0, x1, x2, x3, rfl, hlt, hx, c0, c1, c2, c3⟩ := HL.out.at hkl
      replace c0 := (bw.cell (p := ⟨b, _, none⟩) hlt).trans c0
      replace c1 := (bw.cell (p := ⟨b, _, none⟩) hlt).trans c1
      replace c2 := (bw.cell (p := ⟨b, _, none⟩) hlt).trans c2
      replace c3 := (bw.cell (p := ⟨b, _, none⟩) hlt).trans c3
      have hbad := HK.out _ (List.mem_of_getElem? hx)
      have HS : Hid (evB (l.take (k + 1)) = evB (l.take k) ++ (evL (x0, x1, x2, x3) ++ [10])) := evB_next hx
      have hol := evL_len hbad
      have hq := trline_any x0 x1 x2 x3 (wr.alloc (.cells #[.int .i64 x0, .int .i64 x1, .int .i64 x2, .int .i64 x3] 32)) (hp.all (bw.alloc bw.size _)) hbad
      clear hx hbad
      go_wp2_with (go_at_call 42; refine hq.mono ?_)
      rintro e w3 ⟨rfl, b3⟩
      have b3' : Below wr.heap.size wr w3 := ((Below.refl _ wr).alloc (Nat.le_refl _) _).trans (b3.mono (by simp))
      have h3 := isb_all hI b3'
      have hb3 := hb.trans (b3'.mono hsz)
      have hsz3 := hb3.size
      have hl4 : (Lib.byteCells (evB (l.take k))).length + (ByteArray.mk (evL (x0, x1, x2, x3) ++ [10]).toArray).size ≤ 140737488355328 := by
        rw [Lib.byteCells_length, ba_size, List.length_append]
        have : ([10] : List UInt8).length = 1 := rfl
        omega
      go_wp2_with (go_at_call 41; refine (writeString_any w1.heap.size w1.heap.size _ _ _ h3 hl4 hsz3).mono ?_)
      rintro e w4 ⟨rfl, h4, b4, _⟩
      have hb4 := hb3.trans b4
      clear c0 c1 c2 c3
      go_wp2
      go_roundw
      case rel => exact ⟨k + 1, by omega, by go_num, by rw [HS.out, ev_cells_line]; exact Or.inr h4, hb4⟩
      case measure => simp [intOf]; omega
    · have hke : k = l.length := by omega
      subst hke
      rw [List.take_length] at hI
      go_wp2_with (go_at_call 43; refine (Tryz.Builder_String_any_k w1.heap.size w1.heap.size _ _ hI hsz).mono ?_)
      rintro e w3 ⟨rfl, _, b3, _⟩
      go_wp2
      go_ret2
      exact ⟨rfl, b1.trans ((hb.trans b3).mono b1.size)⟩
set_option maxRecDepth 1000000 in
set_option maxHeartbeats 4000000 in
theorem tprint_bad (l : List W4) (v : Value) (w : World) (hl : Wrs w v l) (h0 : evchk l ≠ 0) :
    Calls Tryz.prog 15 #[v] w fun e w' => e = .returned (.tuple #[.string ⟨#[]⟩, wErr (evchk l)]) ∧ Below w.heap.size w w' := by
  have q := evcheck_any l v w hl
  rw [wErr_not h0] at q ⊢
  generalize evchk l = z at q ⊢
  clear hl h0
  go_enter Tryz.func15, Tryz.ntmps15
  go_wp2_with (go_at_call 40; refine q.mono ?_; rintro e w1 ⟨rfl, b1⟩; clear q)
  go_ret2
  exact ⟨rfl, b1⟩
/-- Print does what the laws of traces ask of it. -/
theorem trc_print {G : World → Prop} (hT : ∀ w, G w → Pow10 w) : TrcPrint G := fun l v W hG hl => by
  by_cases h0 : evchk l = 0
  · unfold evTx
    rw [if_pos h0, h0]
    exact tprint_ok l v W (hT W hG) hl h0
  · unfold evTx
    rw [if_neg h0]
    exact tprint_bad l v W hl h0
end Go.Proofs.YtfconbblnmbnpahGreatDoor
