/-
  KSet, RefText, StRow, KTurns0, SnBox, Cut, StrsL, CutText, Builder, Keep, Laid, Line, Number, Laid2: joined into one text.
-/
import Derived.Test.YtfconbblnmbnpahGreatDoorJa2
import Derived.Deep.MidRow
import Derived.Lib.Strings
import Derived.Lib.ItoaNum
import Derived.Test.YtfconbblnmbnpahGreatDoorJa1
import Derived.RangeFuncRecord
import Derived.Shelf.Strings.BuilderK
import Derived.Lib.SmallJoins
import Derived.Lib.ItoaLen
import Derived.Lib.AppendIntMem
import Derived.ProofKit
import Derived.LaidMore
import Derived.OpenShut
import Derived.Stop.Joined
import Derived.Stop.LaidErr
import Derived.Lib.LaidTab
import Derived.Lib.AtoiTie
import Derived.Lay
namespace Go.Proofs.YtfconbblnmbnpahGreatDoor
open Go.RowKit

/-- A state's eight cells, written. -/
def setSt (w : World) (b o : Nat) (s : St) : World := (((((((w.setCell ⟨b, o, none⟩ (.int .i64 s.p)).setCell ⟨b, o + 1, none⟩ (.int .i64 (s.c 0))).setCell ⟨b, o + 2, none⟩ (.int .i64 (s.c 1))).setCell ⟨b, o + 3, none⟩ (.int .i64 (s.c 2))).setCell ⟨b, o + 4, none⟩ (.int .i64 (s.c 3))).setCell ⟨b, o + 5, none⟩ (.int .i64 (s.c 4))).setCell ⟨b, o + 6, none⟩ (.int .i64 (s.c 5))).setCell ⟨b, o + 7, none⟩ (.bool s.f)
theorem setSt_touch {M : List Nat} (w : World) {b : Nat} (hb : b ∈ M) (o : Nat) (s : St) : KTouch M w (setSt w b o s) :=
  (((((((KTouch.set w hb _ _).trans (KTouch.set _ hb _ _)).trans (KTouch.set _ hb _ _)).trans (KTouch.set _ hb _ _)).trans (KTouch.set _ hb _ _)).trans (KTouch.set _ hb _ _)).trans (KTouch.set _ hb _ _)).trans (KTouch.set _ hb _ _)
theorem setSt_frozen (w : World) (b o : Nat) (s : St) (a : Addr) : (setSt w b o s).frozen? a = w.frozen? a := by
  unfold setSt
  simp only [World.frozen?_setCell]
theorem setCell_far {w : World} {b i j : Nat} {v : Value} (h : i ≠ j) : (w.setCell ⟨b, j, none⟩ v).cell? ⟨b, i, none⟩ = w.cell? ⟨b, i, none⟩ :=
  World.cell?_setCell_other _ _ _ _ (fun e => by injection e with e1 e2; exact h e2.symm)
theorem setSt_off {w : World} {b o : Nat} {s : St} {i : Nat} (h : i < o ∨ o + 8 ≤ i) : (setSt w b o s).cell? ⟨b, i, none⟩ = w.cell? ⟨b, i, none⟩ := by
  unfold setSt
  rw [setCell_far (by omega), setCell_far (by omega), setCell_far (by omega), setCell_far (by omega), setCell_far (by omega), setCell_far (by omega), setCell_far (by omega), setCell_far (by omega)]
theorem setSt_at {w : World} {b o : Nat} {s s' : St} (h : StC w b o s) : StC (setSt w b o s') b o s' := by
  obtain ⟨h0, h1, h2, h3, h4, h5, h6, h7⟩ := h
  unfold setSt
  refine ⟨?_, ?_, ?_, ?_, ?_, ?_, ?_, ?_⟩ <;> simp [go_sem, h0, h1, h2, h3, h4, h5, h6, h7]
theorem StC.off {w w' : World} {b o : Nat} {s : St} (h : StC w b o s) (hc : ∀ i, o ≤ i → i < o + 8 → w'.cell? ⟨b, i, none⟩ = w.cell? ⟨b, i, none⟩) : StC w' b o s :=
  ⟨(hc _ (by omega) (by omega)).trans h.p, (hc _ (by omega) (by omega)).trans h.c0, (hc _ (by omega) (by omega)).trans h.c1, (hc _ (by omega) (by omega)).trans h.c2, (hc _ (by omega) (by omega)).trans h.c3, (hc _ (by omega) (by omega)).trans h.c4, (hc _ (by omega) (by omega)).trans h.c5, (hc _ (by omega) (by omega)).trans h.f⟩
theorem StC.poke {w : World} {b o : Nat} {s : St} (h : StC w b o s) {c : Nat} (hc : c ≤ 5) (n : Int) : StC (w.setCell ⟨b, o + 1 + c, none⟩ (.int .i64 n)) b o (pokeS s c n) := by
  obtain ⟨h0, h1, h2, h3, h4, h5, h6, h7⟩ := h
  match c, hc with
  | 0, _ => refine ⟨?_, ?_, ?_, ?_, ?_, ?_, ?_, ?_⟩ <;> simp [go_sem, pokeS, h0, h1, h2, h3, h4, h5, h6, h7]
  | 1, _ => refine ⟨?_, ?_, ?_, ?_, ?_, ?_, ?_, ?_⟩ <;> simp [go_sem, pokeS, h0, h1, h2, h3, h4, h5, h6, h7]
  | 2, _ => refine ⟨?_, ?_, ?_, ?_, ?_, ?_, ?_, ?_⟩ <;> simp [go_sem, pokeS, h0, h1, h2, h3, h4, h5, h6, h7]
  | 3, _ => refine ⟨?_, ?_, ?_, ?_, ?_, ?_, ?_, ?_⟩ <;> simp [go_sem, pokeS, h0, h1, h2, h3, h4, h5, h6, h7]
  | 4, _ => refine ⟨?_, ?_, ?_, ?_, ?_, ?_, ?_, ?_⟩ <;> simp [go_sem, pokeS, h0, h1, h2, h3, h4, h5, h6, h7]
  | 5, _ => refine ⟨?_, ?_, ?_, ?_, ?_, ?_, ?_, ?_⟩ <;> simp [go_sem, pokeS, h0, h1, h2, h3, h4, h5, h6, h7]
/-- An event in its box. -/
def EvB (W : World) (b : Nat) (t r a q : Int) : Prop := W.heap[b]? = some (.cells #[.int .i64 t, .int .i64 r, .int .i64 a, .int .i64 q] 32 (0, 0))
theorem EvB.lt {W : World} {b : Nat} {t r a q : Int} (h : EvB W b t r a q) : b < W.heap.size := (Array.getElem?_eq_some_iff.1 h).1
theorem EvB.cs {W : World} {b : Nat} {t r a q : Int} (h : EvB W b t r a q) : W.cell? ⟨b, 0, none⟩ = some (.int .i64 t) ∧ W.cell? ⟨b, 1, none⟩ = some (.int .i64 r) ∧ W.cell? ⟨b, 2, none⟩ = some (.int .i64 a) ∧ W.cell? ⟨b, 3, none⟩ = some (.int .i64 q) := by
  have e : W.heap[b]? = _ := h
  simp [World.cell?, e]
theorem EvB.fs {W : World} {b : Nat} {t r a q : Int} (h : EvB W b t r a q) : W.frozen? ⟨b, 0, none⟩ = false ∧ W.frozen? ⟨b, 1, none⟩ = false ∧ W.frozen? ⟨b, 2, none⟩ = false ∧ W.frozen? ⟨b, 3, none⟩ = false := by
  have e : W.heap[b]? = _ := h
  simp [World.frozen?, e]
theorem EvB.set {W : World} {b : Nat} {t r a q : Int} (h : EvB W b t r a q) (t' r' a' q' : Int) : EvB ((((W.setCell ⟨b, 0, none⟩ (.int .i64 t')).setCell ⟨b, 1, none⟩ (.int .i64 r')).setCell ⟨b, 2, none⟩ (.int .i64 a')).setCell ⟨b, 3, none⟩ (.int .i64 q')) b t' r' a' q' := by
  have e : W.heap[b]? = _ := h
  unfold EvB
  simp [World.setCell, Array.getElem?_modify, e]
theorem EvB.at {W : World} {b : Nat} {t r a q : Int} (h : EvB W b t r a q) (a' : Int) : EvB (W.setCell ⟨b, 2, none⟩ (.int .i64 a')) b t r a' q := by
  have e : W.heap[b]? = _ := h
  unfold EvB
  simp [World.setCell, Array.getElem?_modify, e]
theorem EvB.what {W : World} {b : Nat} {t r a q : Int} (h : EvB W b t r a q) (q' : Int) : EvB (W.setCell ⟨b, 3, none⟩ (.int .i64 q')) b t r a q' := by
  have e : W.heap[b]? = _ := h
  unfold EvB
  simp [World.setCell, Array.getElem?_modify, e]
/-- A state in its box. -/
def StB (W : World) (b : Nat) (s : St) : Prop := W.heap[b]? = some (.cells #[.int .i64 s.p, .int .i64 (s.c 0), .int .i64 (s.c 1), .int .i64 (s.c 2), .int .i64 (s.c 3), .int .i64 (s.c 4), .int .i64 (s.c 5), .bool s.f] 117 (0, 0))
theorem StB.cs {W : World} {b : Nat} {s : St} (h : StB W b s) : StC W b 0 s := by
  have e : W.heap[b]? = _ := h
  refine ⟨?_, ?_, ?_, ?_, ?_, ?_, ?_, ?_⟩ <;> simp [World.cell?, e]
/-- Both boxes of a tick, the result's and its own. -/
structure Ev (w W : World) (e2 : Nat) (t r a q : Int) : Prop where
  res : EvB W w.heap.size 0 0 0 0
  own : EvB W e2 t r a q
  ne : e2 ≠ w.heap.size
  ge : w.heap.size ≤ e2
/-- The box laid ahead of the call. -/
theorem ev_box {w w1 : World} (b1 : Below (((w.alloc (.cells #[.int .i64 0, .int .i64 0, .int .i64 0, .int .i64 0] 32)).alloc (.cells #[.int .i64 0, .int .i64 0, .int .i64 0, .int .i64 0] 32)).drew).heap.size (((w.alloc (.cells #[.int .i64 0, .int .i64 0, .int .i64 0, .int .i64 0] 32)).alloc (.cells #[.int .i64 0, .int .i64 0, .int .i64 0, .int .i64 0] 32)).drew) w1) :
    (w1.cell? ⟨w.heap.size + 1, 0, none⟩ = some (.int .i64 0) ∧ w1.cell? ⟨w.heap.size + 1, 1, none⟩ = some (.int .i64 0) ∧ w1.cell? ⟨w.heap.size + 1, 2, none⟩ = some (.int .i64 0) ∧ w1.cell? ⟨w.heap.size + 1, 3, none⟩ = some (.int .i64 0)) ∧ w1.frozen? ⟨w.heap.size + 1, 0, none⟩ = false ∧ w1.frozen? ⟨w.heap.size + 1, 1, none⟩ = false ∧ w1.frozen? ⟨w.heap.size + 1, 2, none⟩ = false ∧ w1.frozen? ⟨w.heap.size + 1, 3, none⟩ = false := by
  have hc := fun o => b1.cell (p := ⟨w.heap.size + 1, o, none⟩) (by simp)
  have hf := fun o => b1.frozen (p := ⟨w.heap.size + 1, o, none⟩) (by simp)
  exact ⟨⟨(hc 0).trans (by simp), (hc 1).trans (by simp), (hc 2).trans (by simp), (hc 3).trans (by simp)⟩, (hf 0).trans (by simp), (hf 1).trans (by simp), (hf 2).trans (by simp), (hf 3).trans (by simp)⟩
/-- The cells of a state are there, and may be written. -/
theorem there_st {W : World} {b o : Nat} {s : St} (h : StC W b o s) (hf : ∀ i, W.frozen? ⟨b, i, none⟩ = false) (nq : Nat) : (W.drewN nq).there b o 8 := by
  obtain ⟨s0, s1, s2, s3, s4, s5, s6, s7⟩ := h
  intro j hj
  have hb : Below W.heap.size W (W.drewN nq) := below_dN (Below.refl _ _) nq
  have hlt : b < W.heap.size := World.block_lt_of_cell? W _ s0
  rw [hb.cell (p := ⟨b, o + j, none⟩) hlt, hb.frozen (p := ⟨b, o + j, none⟩) hlt]
  refine ⟨?_, hf _⟩
  match j, hj with
  | 0, _ => rw [Nat.add_zero, s0]; rfl
  | 1, _ => rw [s1]; rfl
  | 2, _ => rw [s2]; rfl
  | 3, _ => rw [s3]; rfl
  | 4, _ => rw [s4]; rfl
  | 5, _ => rw [s5]; rfl
  | 6, _ => rw [s6]; rfl
  | 7, _ => rw [s7]; rfl
end Go.Proofs.YtfconbblnmbnpahGreatDoor
namespace Go.Proofs.YtfconbblnmbnpahGreatDoor
open Go.RowKit

/-- A digit as a text. -/
def dgB (k : Nat) : ByteArray := ⟨#[UInt8.ofNat (48 + k)]⟩
theorem digit0 (w : World) : (Instr.slice 9 (.string ⟨#[48, 49, 50, 51, 52, 53, 54, 55, 56, 57]⟩) (some (.int .i64 0)) (some (.int .i64 1)) none).run Tryz.prog w = .ok (.string (dgB 0)) w := by kernel_rfl
theorem digit1 (w : World) : (Instr.slice 9 (.string ⟨#[48, 49, 50, 51, 52, 53, 54, 55, 56, 57]⟩) (some (.int .i64 1)) (some (.int .i64 2)) none).run Tryz.prog w = .ok (.string (dgB 1)) w := by kernel_rfl
theorem digit2 (w : World) : (Instr.slice 9 (.string ⟨#[48, 49, 50, 51, 52, 53, 54, 55, 56, 57]⟩) (some (.int .i64 2)) (some (.int .i64 3)) none).run Tryz.prog w = .ok (.string (dgB 2)) w := by kernel_rfl
theorem digit3 (w : World) : (Instr.slice 9 (.string ⟨#[48, 49, 50, 51, 52, 53, 54, 55, 56, 57]⟩) (some (.int .i64 3)) (some (.int .i64 4)) none).run Tryz.prog w = .ok (.string (dgB 3)) w := by kernel_rfl
theorem digit4 (w : World) : (Instr.slice 9 (.string ⟨#[48, 49, 50, 51, 52, 53, 54, 55, 56, 57]⟩) (some (.int .i64 4)) (some (.int .i64 5)) none).run Tryz.prog w = .ok (.string (dgB 4)) w := by kernel_rfl
theorem digit5 (w : World) : (Instr.slice 9 (.string ⟨#[48, 49, 50, 51, 52, 53, 54, 55, 56, 57]⟩) (some (.int .i64 5)) (some (.int .i64 6)) none).run Tryz.prog w = .ok (.string (dgB 5)) w := by kernel_rfl
theorem digit6 (w : World) : (Instr.slice 9 (.string ⟨#[48, 49, 50, 51, 52, 53, 54, 55, 56, 57]⟩) (some (.int .i64 6)) (some (.int .i64 7)) none).run Tryz.prog w = .ok (.string (dgB 6)) w := by kernel_rfl
theorem digit7 (w : World) : (Instr.slice 9 (.string ⟨#[48, 49, 50, 51, 52, 53, 54, 55, 56, 57]⟩) (some (.int .i64 7)) (some (.int .i64 8)) none).run Tryz.prog w = .ok (.string (dgB 7)) w := by kernel_rfl
theorem digit8 (w : World) : (Instr.slice 9 (.string ⟨#[48, 49, 50, 51, 52, 53, 54, 55, 56, 57]⟩) (some (.int .i64 8)) (some (.int .i64 9)) none).run Tryz.prog w = .ok (.string (dgB 8)) w := by kernel_rfl
theorem digit9 (w : World) : (Instr.slice 9 (.string ⟨#[48, 49, 50, 51, 52, 53, 54, 55, 56, 57]⟩) (some (.int .i64 9)) (some (.int .i64 10)) none).run Tryz.prog w = .ok (.string (dgB 9)) w := by kernel_rfl
theorem digit_slice (k : Nat) (z : Int) (hz : z = k) (h : k < 10) (w : World) : (Instr.slice 9 (.string ⟨#[48, 49, 50, 51, 52, 53, 54, 55, 56, 57]⟩) (some (.int .i64 z)) (some (.int .i64 (z + 1))) none).run Tryz.prog w = .ok (.string (dgB k)) w := by
  subst hz
  have : k = 0 ∨ k = 1 ∨ k = 2 ∨ k = 3 ∨ k = 4 ∨ k = 5 ∨ k = 6 ∨ k = 7 ∨ k = 8 ∨ k = 9 := by omega
  rcases this with rfl | rfl | rfl | rfl | rfl | rfl | rfl | rfl | rfl | rfl
  · exact digit0 w
  · exact digit1 w
  · exact digit2 w
  · exact digit3 w
  · exact digit4 w
  · exact digit5 w
  · exact digit6 w
  · exact digit7 w
  · exact digit8 w
  · exact digit9 w

set_option maxRecDepth 100000 in
set_option maxHeartbeats 4000000 in
theorem digits_one (n : Nat) (w : World) (h : n < 10) : Calls Tryz.prog 38 #[.int .i64 n] w fun e w' => e = .returned (.string ⟨(Lib.decDigits n).toArray⟩) ∧ w' = w := by
  have h' : (n : Int) < 10 := by omega
  have hs := digit_slice n n rfl h
  go_enter Tryz.func38, Tryz.ntmps38
  go_wp2
  go_ret
  exact ⟨by rw [Lib.decDigits_one h]; rfl, rfl⟩

theorem ba_app (a b : List UInt8) : (⟨a.toArray⟩ : ByteArray) ++ (⟨b.toArray⟩ : ByteArray) = ⟨(a ++ b).toArray⟩ := by
  apply ByteArray.ext
  apply Array.toList_inj.1
  simp
theorem ba_app3 (a b c : List UInt8) : (⟨a.toArray⟩ : ByteArray) ++ (⟨b.toArray⟩ : ByteArray) ++ (⟨c.toArray⟩ : ByteArray) = ⟨(a ++ (b ++ c)).toArray⟩ := by rw [ba_app, ba_app, List.append_assoc]
theorem ret_str {a b : List UInt8} (h : a = b) : Ending.returned (.string ⟨a.toArray⟩) = .returned (.string ⟨b.toArray⟩) := by rw [h]
theorem dec_short {n : Nat} (h : n ≤ 100000000) : (Lib.decDigits n).length ≤ 20 := by
  rw [Lib.decDigits_length]
  exact Lib.nDigits_le20 n (by omega)

set_option maxRecDepth 100000 in
set_option maxHeartbeats 4000000 in
theorem digits_more (n : Nat) (w : World) (h : ¬ n < 10) (hn : n ≤ 100000000) (ih : Calls Tryz.prog 38 #[.int .i64 ((n : Int) / 10)] w fun e w' => e = .returned (.string ⟨(Lib.decDigits (n / 10)).toArray⟩) ∧ w' = w) :
    Calls Tryz.prog 38 #[.int .i64 n] w fun e w' => e = .returned (.string ⟨(Lib.decDigits n).toArray⟩) ∧ w' = w := by
  have h' : ¬ (n : Int) < 10 := by omega
  have hs := digit_slice (n % 10) ((n : Int) % 10) (by omega) (by omega)
  have hd : Lib.decDigits n = Lib.decDigits (n / 10) ++ [UInt8.ofNat (48 + n % 10)] := by rw [Lib.decDigits, dif_neg h]
  have HD : Hid (Lib.decDigits n = Lib.decDigits (n / 10) ++ [UInt8.ofNat (48 + n % 10)]) := hd
  have hl := dec_short (n := n / 10) (by omega)
  have hdg : (dgB (n % 10)).size = 1 := rfl
  clear hd
  obtain ⟨D, hD⟩ : ∃ D, D = Lib.decDigits (n / 10) := ⟨_, rfl⟩
  rw [← hD] at ih hl
  have HE : Hid (D = Lib.decDigits (n / 10)) := hD
  clear hD
  go_enter Tryz.func38, Tryz.ntmps38
  go_wp2_with (go_at_call 38; refine ih.mono ?_; rintro e w1 ⟨rfl, hw⟩; subst hw; clear ih)
  go_ret
  refine ⟨?_, rfl⟩
  rw [HD.out, ← HE.out]
  exact congrArg (fun x => Ending.returned (Value.string x)) (ba_app D [UInt8.ofNat (48 + n % 10)])
theorem digits_any (n : Nat) (hn : n ≤ 100000000) (w : World) : Calls Tryz.prog 38 #[.int .i64 n] w fun e w' => e = .returned (.string ⟨(Lib.decDigits n).toArray⟩) ∧ w' = w := by
  induction n using Nat.strongRecOn with
  | _ n ih =>
    by_cases h : n < 10
    · exact digits_one n w h
    · exact digits_more n w h hn (ih (n / 10) (by omega) (by omega))
theorem digits_int (z : Int) (h0 : 0 ≤ z) (h1 : z ≤ 100000000) (w : World) : Calls Tryz.prog 38 #[.int .i64 z] w fun e w' => e = .returned (.string ⟨(Lib.itoa z).toArray⟩) ∧ w' = w := by
  obtain ⟨n, rfl⟩ : ∃ n : Nat, z = n := ⟨z.toNat, by omega⟩
  have := digits_any n (by omega) w
  rwa [show Lib.itoa (n : Int) = Lib.decDigits n from by unfold Lib.itoa; rw [if_neg (by omega)]; rfl]

set_option maxRecDepth 1000000 in
set_option maxHeartbeats 4000000 in
theorem row_some (word : List UInt8) (a : Addr) (cap : Nat) (zs : List Int) (w : World) (hab : a.block < w.heap.size) (hc : ∀ (i : Nat) z, zs[i]? = some z → w.cell? (a.add i) = some (.int .i64 z))
    (hz : ∀ z ∈ zs, 0 ≤ z ∧ z ≤ 100000000) (hlen : word.length + 22 * zs.length ≤ 1000000) :
    Calls Tryz.prog 39 #[.string ⟨word.toArray⟩, .slice (some a) zs.length cap] w fun e w' => e = .returned (.string ⟨(word ++ tail zs).toArray⟩) ∧ Below w.heap.size w w' := by
  go_enter Tryz.func39, Tryz.ntmps39
  go_wp2
  go_loopw [0, 5] (fun s i wr => ∃ k : Nat, k ≤ zs.length ∧ i = .int .i64 k ∧ s = .string ⟨(word ++ tail (zs.take k)).toArray⟩ ∧ Below w.heap.size w wr) (fun _ i _ => zs.length - (intOf i).toNat)
  case atStart => exact ⟨0, Nat.zero_le _, rfl, by simp [tail], Below.refl _ _⟩
  case round =>
    obtain ⟨k, hk, rfl, rfl, hb⟩ := hrel
    have htl := tail_le (zs.take k) (fun z h => by have := hz z (List.mem_of_mem_take h); omega)
    have htk : (zs.take k).length ≤ k := List.length_take_le _ _
    have hTl : (word ++ tail (zs.take k)).length ≤ 1000000 := by rw [List.length_append]; omega
    obtain ⟨T, hT⟩ : ∃ T, T = word ++ tail (zs.take k) := ⟨_, rfl⟩
    rw [← hT] at hTl ⊢
    have HT : Hid (T = word ++ tail (zs.take k)) := hT
    clear hT htl htk
    by_cases hlt : k < zs.length
    · have hcell : wr.cell? (a.add k) = some (.int .i64 (zs[k]'hlt)) := (hb.cell (p := a.add k) (by rw [add_block]; exact hab)).trans (hc k _ (List.getElem?_eq_getElem hlt))
      have hzk := hz (zs[k]'hlt) (List.getElem_mem hlt)
      have hil := Lib.itoa_length_le (zs[k]'hlt) (by omega) (by omega)
      have hsn : Hid (zs.take (k + 1) = zs.take k ++ [zs[k]'hlt]) := List.take_succ_eq_append_getElem hlt
      have hdg := fun W => digits_int (zs[k]'hlt) hzk.1 hzk.2 W
      obtain ⟨z, hzz⟩ : ∃ z, z = zs[k]'hlt := ⟨_, rfl⟩
      rw [← hzz] at hcell hil hsn hdg
      obtain ⟨D, hD⟩ : ∃ D, D = Lib.itoa z := ⟨_, rfl⟩
      rw [← hD] at hil hdg
      have HD : Hid (D = Lib.itoa z) := hD
      clear hD hzz hzk
      go_wp2_with (go_at_call 38; refine (hdg _).mono ?_; rintro e w1 ⟨rfl, hw⟩; subst hw; clear hdg)
      go_roundw
      case rel =>
        refine ⟨k + 1, by omega, by go_num, ?_, hb⟩
        rw [hsn.out, tail_snoc, ← HD.out, ← List.append_assoc, ← HT.out]
        exact congrArg Value.string (ba_app3 T [32] D)
      case measure => simp [intOf]; omega
    · have hke : k = zs.length := by omega
      subst hke
      have HT2 : Hid (T = word ++ tail zs) := by have := HT.out; rwa [List.take_length] at this
      go_wp2
      go_ret
      exact ⟨ret_str HT2.out, hb⟩
set_option maxRecDepth 1000000 in
set_option maxHeartbeats 4000000 in
theorem row_none (word : List UInt8) (w : World) :
    Calls Tryz.prog 39 #[.string ⟨word.toArray⟩, .slice none 0 0] w fun e w' => e = .returned (.string ⟨(word ++ tail []).toArray⟩) ∧ Below w.heap.size w w' := by
  go_enter Tryz.func39, Tryz.ntmps39
  go_wp2
  refine wp_loop_rounds 1 ?_
  rw [rounds_succ]
  go_wp2
  go_ret
  exact ⟨by simp [tail], Below.refl _ _⟩
theorem row_any (word : List UInt8) (v : Value) (zs : List Int) (w : World) (hv : Ints w v zs)
    (hz : ∀ z ∈ zs, 0 ≤ z ∧ z ≤ 100000000) (hlen : word.length + 22 * zs.length ≤ 1000000) :
    Calls Tryz.prog 39 #[.string ⟨word.toArray⟩, v] w fun e w' => e = .returned (.string ⟨(word ++ tail zs).toArray⟩) ∧ Below w.heap.size w w' := by
  rcases hv with ⟨rfl, rfl⟩ | ⟨a, cap, rfl, ha, hc⟩
  · exact row_none word w
  · exact row_some word a cap zs w ha hc hz hlen
end Go.Proofs.YtfconbblnmbnpahGreatDoor
namespace Go.Proofs.YtfconbblnmbnpahGreatDoor
open Go.RowKit

/-- States as cells. -/
def stCells (l : List St) : List Value := l.flatMap fun s => [.int .i64 s.p, .int .i64 (s.c 0), .int .i64 (s.c 1), .int .i64 (s.c 2), .int .i64 (s.c 3), .int .i64 (s.c 4), .int .i64 (s.c 5), .bool s.f]
theorem stCells_snoc (l : List St) (s : St) : stCells (l ++ [s]) = stCells l ++ [.int .i64 s.p, .int .i64 (s.c 0), .int .i64 (s.c 1), .int .i64 (s.c 2), .int .i64 (s.c 3), .int .i64 (s.c 4), .int .i64 (s.c 5), .bool s.f] := by simp [stCells]
theorem stCells_at : ∀ (l : List St) (i : Nat) (s : St), l[i]? = some s → (stCells l)[i * 8]? = some (.int .i64 s.p) ∧ (stCells l)[i * 8 + 1]? = some (.int .i64 (s.c 0)) ∧ (stCells l)[i * 8 + 2]? = some (.int .i64 (s.c 1)) ∧ (stCells l)[i * 8 + 3]? = some (.int .i64 (s.c 2)) ∧ (stCells l)[i * 8 + 4]? = some (.int .i64 (s.c 3)) ∧ (stCells l)[i * 8 + 5]? = some (.int .i64 (s.c 4)) ∧ (stCells l)[i * 8 + 6]? = some (.int .i64 (s.c 5)) ∧ (stCells l)[i * 8 + 7]? = some (.bool s.f)
  | [], i, s, h => by simp at h
  | x :: l, 0, s, h => by simp at h; subst h; simp [stCells]
  | x :: l, i + 1, s, h => by
    have h1 := stCells_at l i s (by simpa using h)
    have e : ∀ j, (stCells (x :: l))[(i + 1) * 8 + j]? = (stCells l)[i * 8 + j]? := fun j => by
      show ([.int .i64 x.p, .int .i64 (x.c 0), .int .i64 (x.c 1), .int .i64 (x.c 2), .int .i64 (x.c 3), .int .i64 (x.c 4), .int .i64 (x.c 5), .bool x.f] ++ stCells l)[(i + 1) * 8 + j]? = _
      rw [List.getElem?_append_right (by simp; omega)]
      congr 1
      simp
      omega
    exact ⟨(e 0).trans h1.1, (e 1).trans h1.2.1, (e 2).trans h1.2.2.1, (e 3).trans h1.2.2.2.1, (e 4).trans h1.2.2.2.2.1, (e 5).trans h1.2.2.2.2.2.1, (e 6).trans h1.2.2.2.2.2.2.1, (e 7).trans h1.2.2.2.2.2.2.2⟩
theorem st_one (s : St) : ∀ u ∈ [Value.int .i64 s.p, .int .i64 (s.c 0), .int .i64 (s.c 1), .int .i64 (s.c 2), .int .i64 (s.c 3), .int .i64 (s.c 4), .int .i64 (s.c 5), .bool s.f], u.oneCell' = true := by
  intro u hu
  simp only [List.mem_cons, List.not_mem_nil, or_false] at hu
  rcases hu with rfl | rfl | rfl | rfl | rfl | rfl | rfl | rfl <;> rfl
theorem st_new {w : World} {k : Nat} (hk : k = w.heap.size) (s : St) (t : TypeId) : ∀ j u, [Value.int .i64 s.p, .int .i64 (s.c 0), .int .i64 (s.c 1), .int .i64 (s.c 2), .int .i64 (s.c 3), .int .i64 (s.c 4), .int .i64 (s.c 5), .bool s.f][j]? = some u → (w.alloc (.cells #[.int .i64 s.p, .int .i64 (s.c 0), .int .i64 (s.c 1), .int .i64 (s.c 2), .int .i64 (s.c 3), .int .i64 (s.c 4), .int .i64 (s.c 5), .bool s.f] t)).cell? ((⟨k, 0, none⟩ : Addr).add j) = some u := by
  intro j u hj
  subst hk
  rw [Addr.add_lit, Nat.zero_add]
  match j, hj with
  | 0, hj => simp at hj; subst hj; simp
  | 1, hj => simp at hj; subst hj; simp
  | 2, hj => simp at hj; subst hj; simp
  | 3, hj => simp at hj; subst hj; simp
  | 4, hj => simp at hj; subst hj; simp
  | 5, hj => simp at hj; subst hj; simp
  | 6, hj => simp at hj; subst hj; simp
  | 7, hj => simp at hj; subst hj; simp
  | j + 8, hj => simp at hj
theorem infoSt : (Tryz.prog.info? 117).map (fun i => (i.zero, i.size, i.bytes)) = some (some (.agg #[.int .i64 0, .int .i64 0, .int .i64 0, .int .i64 0, .int .i64 0, .int .i64 0, .int .i64 0, .bool false]), 8, 64) := by kernel_rfl
end Go.Proofs.YtfconbblnmbnpahGreatDoor
namespace Go.Proofs.YtfconbblnmbnpahGreatDoor
open Go.RowKit

/-- A row of states that is owned: where each lies. -/
theorem was_at {W : World} {base n : Nat} {v : Value} {l : List St} (h : W.ownsRow base 117 8 v n (stCells l)) (hn : n ≠ 0) : ∃ g cap, v = .slice (some ⟨g, 0, none⟩) n cap ∧ base ≤ g ∧ g < W.heap.size ∧ ∀ (r : Nat) s, l[r]? = some s → StC W g (r * 8) s := by
  rcases h.2 with ⟨_, h3⟩ | ⟨g, cap, cur, h2, h3, h4, _⟩
  · exact absurd h3 hn
  · refine ⟨g, cap, h2, h3, (Array.getElem?_eq_some_iff.1 h4).1, fun r s hs => ?_⟩
    have hc : ∀ j u, (stCells l)[j]? = some u → W.cell? ⟨g, j, none⟩ = some u := fun j u hj => by
      have := h.cells (g := g) (by rw [h2]; rfl) j u hj
      rw [Addr.add_lit, Nat.zero_add] at this
      exact this
    obtain ⟨h0, h1, h2, h3, h4, h5, h6, h7⟩ := stCells_at l r s hs
    exact ⟨hc _ _ h0, hc _ _ h1, hc _ _ h2, hc _ _ h3, hc _ _ h4, hc _ _ h5, hc _ _ h6, hc _ _ h7⟩
/-- What was held, laid by: each with its numbers. -/
structure HRow (k : KD) (B : Nat) (W : World) (v : Value) (l : List (Value × Int)) : Prop where
  own : W.ownsRow B 86 2 v l.length (hdCells l)
  rd : ∀ (i : Nat) x ln, l[i]? = some x → k.lines[i]? = some ln → Rd W x.1 ln.xs ∧ x.2 = ln.ls
  ap : ∀ x ∈ l, ∀ g, x.1.ownBlock = some g → B ≤ g ∧ g < W.heap.size ∧ v.ownBlock ≠ some g
theorem HRow.nil (k : KD) (W : World) : HRow k W.heap.size W (.slice none 0 0) [] := ⟨World.ownsRow_nil _ _ _ _, fun i x ln h => by simp at h, fun x hx => by cases hx⟩
theorem HRow.rlt {k : KD} {B : Nat} {W : World} {v : Value} {l : List (Value × Int)} (h : HRow k B W v l) : ∀ g, v.ownBlock = some g → B ≤ g ∧ g < W.heap.size := fun g hg => by
  rcases h.own.2 with ⟨h2, _⟩ | ⟨g', cap, cur, h2, h3, h4, _⟩
  · rw [h2] at hg
    cases hg
  · rw [h2] at hg
    simp only [Value.ownBlock, Option.some.injEq] at hg
    subst hg
    exact ⟨h3, (Array.getElem?_eq_some_iff.1 h4).1⟩
/-- What is written lies ahead of it. -/
theorem HRow.touch {k : KD} {B : Nat} {W W' : World} {v : Value} {l : List (Value × Int)} (h : HRow k B W v l) {M : List Nat} (ht : KTouch M W W') (hM : ∀ m ∈ M, m < B) : HRow k B W' v l := by
  refine ⟨own_block h.own (fun g hg => ht.block g (h.rlt g hg).2 (fun hm => ?_)), fun i x ln hx hl => ?_, fun x hx g hg => ?_⟩
  · have := hM g hm
    have := (h.rlt g hg).1
    omega
  · obtain ⟨h1, h2⟩ := h.rd i x ln hx hl
    refine ⟨h1.block (fun g hg he => ht.block g hg (fun hm => ?_)) ht.size, h2⟩
    have := hM g hm
    have := (h.ap x (List.mem_of_getElem? hx) g he).1
    omega
  · obtain ⟨h1, h2, h3⟩ := h.ap x hx g hg
    exact ⟨h1, Nat.lt_of_lt_of_le h2 ht.size, h3⟩
/-- One more. -/
theorem HRow.more {k : KD} {B : Nat} {W w7 w8 : World} {v v' u : Value} {l : List (Value × Int)} {ln : LnD} (h : HRow k B W v l) (hB : B ≤ W.heap.size) (hln : k.lines[l.length]? = some ln) (b7 : Below W.heap.size W w7) (hu : Rd w7 u ln.xs) (hf : ∀ g, u.ownBlock = some g → W.heap.size ≤ g ∧ g < w7.heap.size)
    {o1 o2 : Obj} (hg : ((w7.alloc o1).alloc o2).grownBy w8 v.ownBlock) (hown : w8.ownsRow B 86 2 v' (l.length + 1) (hdCells l ++ [u, .int .i64 ln.ls])) (hnew : ∀ g, v'.ownBlock = some g → v.ownBlock = some g ∨ w7.heap.size + 2 ≤ g) : HRow k B w8 v' (l ++ [(u, ln.ls)]) := by
  have hbl : Below w7.heap.size w7 ((w7.alloc o1).alloc o2) := ((Below.refl _ _).alloc (Nat.le_refl _) _).alloc (by simp) _
  have hs2 : ((w7.alloc o1).alloc o2).heap.size = w7.heap.size + 2 := by simp
  have hs8 : w7.heap.size + 2 ≤ w8.heap.size := by have := hg.size; omega
  have hs7 := b7.size
  have hk : ∀ g, g < w7.heap.size → v.ownBlock ≠ some g → w8.heap[g]? = w7.heap[g]? := fun g h1 h2 => (hg.block g (by omega) (fun e => h2 e.symm)).trans (hbl.block g h1)
  have hun : ∀ g, u.ownBlock = some g → v.ownBlock ≠ some g := fun g h1 h2 => by
    have := (hf g h1).1
    have := (h.rlt g h2).2
    omega
  refine ⟨by rw [List.length_append, hdCells_snoc]; exact hown, fun i x ln' hx hl => ?_, fun x hx g hgx => ?_⟩
  · by_cases hil : i < l.length
    · rw [List.getElem?_append_left hil] at hx
      obtain ⟨h1, h2⟩ := h.rd i x ln' hx hl
      refine ⟨(h1.block (fun g hg' he => b7.block g hg') b7.size).block (fun g hg' he => hk g hg' (h.ap x (List.mem_of_getElem? hx) g he).2.2) (by omega), h2⟩
    · have hlt := (List.getElem?_eq_some_iff.1 hx).1
      rw [List.length_append, List.length_singleton] at hlt
      obtain rfl : i = l.length := by omega
      rw [List.getElem?_append_right (Nat.le_refl _), Nat.sub_self] at hx
      simp only [List.getElem?_cons_zero, Option.some.injEq] at hx
      subst hx
      rw [hln] at hl
      obtain rfl := Option.some.inj hl
      exact ⟨hu.block (fun g hg' he => hk g hg' (hun g he)) (by omega), rfl⟩
  · rcases List.mem_append.1 hx with h1 | h1
    · obtain ⟨h2, h3, h4⟩ := h.ap x h1 g hgx
      refine ⟨h2, by omega, fun e => ?_⟩
      rcases hnew g e with h5 | h5
      · exact h4 h5
      · omega
    · rw [List.mem_singleton] at h1
      subst h1
      obtain ⟨h2, h3⟩ := hf g hgx
      refine ⟨by omega, by omega, fun e => ?_⟩
      rcases hnew g e with h5 | h5
      · exact hun g hgx h5
      · omega
/-- Where each lies. -/
theorem HRow.at {k : KD} {B : Nat} {W : World} {v : Value} {l : List (Value × Int)} (h : HRow k B W v l) {i : Nat} (hi : i < l.length) : ∃ g cap x, v = .slice (some ⟨g, 0, none⟩) l.length cap ∧ l[i]? = some x ∧ W.cell? ⟨g, i * 2, none⟩ = some x.1 ∧ W.cell? ⟨g, i * 2 + 1, none⟩ = some (.int .i64 x.2) := by
  rcases h.own.2 with ⟨_, h3⟩ | ⟨g, cap, cur, h2, _⟩
  · omega
  · have hc : ∀ j u, (hdCells l)[j]? = some u → W.cell? ⟨g, j, none⟩ = some u := fun j u hj => by
      have := h.own.cells (g := g) (by rw [h2]; rfl) j u hj
      rw [Addr.add_lit, Nat.zero_add] at this
      exact this
    have hx := List.getElem?_eq_getElem hi
    obtain ⟨h0, h1⟩ := hdCells_at l i _ hx
    exact ⟨g, cap, _, h2, hx, hc _ _ h0, hc _ _ h1⟩
end Go.Proofs.YtfconbblnmbnpahGreatDoor
namespace Go.Proofs.YtfconbblnmbnpahGreatDoor
open Go.RowKit

structure KpB (w : World) (base b : Nat) (t : Int) (vr vw : Value) (rs : List St) (us : List (Value × Int)) (zs : List (List Int × Int)) : Prop where
  c0 : w.cell? ⟨b, 0, none⟩ = some (.int .i64 t)
  c1 : w.cell? ⟨b, 1, none⟩ = some vr
  c2 : w.cell? ⟨b, 2, none⟩ = some vw
  f0 : w.frozen? ⟨b, 0, none⟩ = false
  f1 : w.frozen? ⟨b, 1, none⟩ = false
  f2 : w.frozen? ⟨b, 2, none⟩ = false
  lt : b < base
  le : base ≤ w.heap.size
  rr : w.ownsRow base 117 8 vr rs.length (stCells rs)
  wr : w.ownsRow base 86 2 vw us.length (hdCells us)
  ul : us.length = zs.length
  at_ : ∀ (i : Nat) u z, us[i]? = some u → zs[i]? = some z → u.2 = z.2 ∧ Rd w u.1 z.1 ∧ ∀ g, u.1.ownBlock = some g → base ≤ g ∧ ∃ cur fz, w.heap[g]? = some (.cells cur 3 fz)
theorem KpB.keep {w w' : World} {base b : Nat} {t : Int} {vr vw : Value} {rs : List St} {us : List (Value × Int)} {zs : List (List Int × Int)} (h : KpB w base b t vr vw rs us zs) (hs : w.heap.size ≤ w'.heap.size) (hb : w'.heap[b]? = w.heap[b]?) (hk : ∀ k cur e fz, base ≤ k → w.heap[k]? = some (.cells cur e fz) → w'.heap[k]? = w.heap[k]?) : KpB w' base b t vr vw rs us zs := by
  have hc := fun o => World.cell?_of_block (w := w) (w' := w') (a := ⟨b, o, none⟩) hb
  have hf := fun o => World.frozen?_of_block (w := w) (w' := w') (a := ⟨b, o, none⟩) hb
  have hrow : ∀ {e : TypeId} {size n : Nat} {v : Value} {xs : List Value}, w.ownsRow base e size v n xs → w'.ownsRow base e size v n xs := fun {e size n v xs} hr => own_block hr (fun k hk2 => by
    rcases hr.2 with ⟨h1, _⟩ | ⟨g, cap, cur, h1, h3, h4, _⟩
    · rw [h1] at hk2; cases hk2
    · rw [h1] at hk2
      obtain rfl := Option.some.inj hk2
      exact hk _ _ _ _ h3 h4)
  refine ⟨(hc 0).trans h.c0, (hc 1).trans h.c1, (hc 2).trans h.c2, (hf 0).trans h.f0, (hf 1).trans h.f1, (hf 2).trans h.f2, h.lt, Nat.le_trans h.le hs, hrow h.rr, hrow h.wr, h.ul, fun i u z hu hz => ?_⟩
  obtain ⟨q1, q2, q3⟩ := h.at_ i u z hu hz
  have hu2 : ∀ k, u.1.ownBlock = some k → w'.heap[k]? = w.heap[k]? := fun k e => by
    obtain ⟨h1, cur, fz, h2⟩ := q3 k e
    exact hk k _ _ _ h1 h2
  refine ⟨q1, q2.block (fun k _ e => hu2 k e) hs, fun g hg => ?_⟩
  obtain ⟨h1, cur, fz, h2⟩ := q3 g hg
  exact ⟨h1, cur, fz, (hu2 g hg).trans h2⟩
theorem KpB.below {w w' : World} {base b : Nat} {t : Int} {vr vw : Value} {rs : List St} {us : List (Value × Int)} {zs : List (List Int × Int)} (h : KpB w base b t vr vw rs us zs) (hb : Below w.heap.size w w') : KpB w' base b t vr vw rs us zs :=
  h.keep hb.size (hb.block b (Nat.lt_of_lt_of_le h.lt h.le)) (fun k _ _ _ _ hk => hb.block k (Array.getElem?_eq_some_iff.1 hk).1)
/-- A cell of the box is written. -/
theorem KpB.time {w : World} {base b : Nat} {t : Int} {vr vw : Value} {rs : List St} {us : List (Value × Int)} {zs : List (List Int × Int)} (h : KpB w base b t vr vw rs us zs) (n : Int) : KpB (w.setCell ⟨b, 0, none⟩ (.int .i64 n)) base b n vr vw rs us zs := by
  have hk : ∀ k, base ≤ k → (w.setCell ⟨b, 0, none⟩ (.int .i64 n)).heap[k]? = w.heap[k]? := fun k hk => Below.heap_setCell _ _ _ _ (show k ≠ b by have := h.lt; omega)
  refine ⟨by simp [go_sem, h.c0], by simpa [go_sem] using h.c1, by simpa [go_sem] using h.c2, by simpa using h.f0, by simpa using h.f1, by simpa using h.f2, h.lt, by simpa using h.le, ownsRow_setCell_below h.rr (a := ⟨b, 0, none⟩) h.lt _, ownsRow_setCell_below h.wr (a := ⟨b, 0, none⟩) h.lt _, h.ul, fun i u z hu hz => ?_⟩
  obtain ⟨q1, q2, q3⟩ := h.at_ i u z hu hz
  refine ⟨q1, q2.block (fun k _ e => hk k (q3 k e).1) (by simp), fun g hg => ?_⟩
  obtain ⟨h1, cur, fz, h2⟩ := q3 g hg
  exact ⟨h1, cur, fz, (hk g h1).trans h2⟩
/-- A row has grown by a state. -/
theorem KpB.room {w w1 : World} {base b : Nat} {t : Int} {vr vr' vw : Value} {rs : List St} {us : List (Value × Int)} {zs : List (List Int × Int)} (h : KpB w base b t vr vw rs us zs) (s : St) (hg : w.grownBy w1 vr.ownBlock) (own : w1.ownsRow base 117 8 vr' (rs.length + 1) (stCells rs ++ [.int .i64 s.p, .int .i64 (s.c 0), .int .i64 (s.c 1), .int .i64 (s.c 2), .int .i64 (s.c 3), .int .i64 (s.c 4), .int .i64 (s.c 5), .bool s.f])) :
    KpB (w1.setCell ⟨b, 1, none⟩ vr') base b t vr' vw (rs ++ [s]) us zs ∧ Tk base b w (w1.setCell ⟨b, 1, none⟩ vr') := by
  have htk : Tk base b w w1 := Tk.grown h.rr hg h.le h.lt
  have hne : ∀ k cur fz e, e ≠ 117 → w.heap[k]? = some (.cells cur e fz) → vr.ownBlock ≠ some k := fun k cur fz e he hk e2 => by
    rcases h.rr.2 with ⟨h1, _⟩ | ⟨g, cap, cur2, h1, h3, h4, _⟩
    · rw [h1] at e2; cases e2
    · rw [h1] at e2
      obtain rfl := Option.some.inj e2
      rw [show w.heap[g]? = _ from h4] at hk
      cases hk
      exact he rfl
  have hbv : vr.ownBlock ≠ some b := fun e => by have := (h.rr.lt b e).1; have := h.lt; omega
  have hblt : b < w.heap.size := Nat.lt_of_lt_of_le h.lt h.le
  have hb1 : w1.heap[b]? = w.heap[b]? := hg.block b hblt (fun e => hbv e.symm)
  have hc := fun o => World.cell?_of_block (w := w) (w' := w1) (a := ⟨b, o, none⟩) hb1
  have hf := fun o => World.frozen?_of_block (w := w) (w' := w1) (a := ⟨b, o, none⟩) hb1
  have hkk : ∀ k cur e fz, e ≠ 117 → base ≤ k → w.heap[k]? = some (.cells cur e fz) → (w1.setCell ⟨b, 1, none⟩ vr').heap[k]? = w.heap[k]? := fun k cur e fz he hbk hk =>
    (Below.heap_setCell _ _ _ _ (show k ≠ b by have := h.lt; omega)).trans (hg.block k (Array.getElem?_eq_some_iff.1 hk).1 (fun e2 => hne k cur fz e he hk e2.symm))
  refine ⟨⟨by simp [go_sem, hc, h.c0], by simp [go_sem, hc, h.c1], by simp [go_sem, hc, h.c2], by simp [hf, h.f0], by simp [hf, h.f1], by simp [hf, h.f2], h.lt, by have := hg.size; have := h.le; simp; omega, by rw [stCells_snoc, List.length_append, List.length_singleton]; exact ownsRow_setCell_below own (a := ⟨b, 1, none⟩) h.lt _, ?_, h.ul, fun i u z hu hz => ?_⟩, htk.trans (Tk.set base w1 1 vr')⟩
  · refine own_block h.wr (fun k hk => ?_)
    rcases h.wr.2 with ⟨h1, _⟩ | ⟨g, cap, cur, h1, h3, h4, _⟩
    · rw [h1] at hk; cases hk
    · rw [h1] at hk
      obtain rfl := Option.some.inj hk
      exact hkk _ _ _ _ (by decide) h3 h4
  · obtain ⟨q1, q2, q3⟩ := h.at_ i u z hu hz
    refine ⟨q1, q2.block (fun k _ e => ?_) (by have := hg.size; simpa using this), fun g hg2 => ?_⟩
    · obtain ⟨h1, cur, fz, h2⟩ := q3 k e
      exact hkk _ _ _ _ (by decide) h1 h2
    · obtain ⟨h1, cur, fz, h2⟩ := q3 g hg2
      exact ⟨h1, cur, fz, (hkk _ _ _ _ (by decide) h1 h2).trans h2⟩
/-- A row has grown by what a wire holds. -/
theorem KpB.wire {w w1 : World} {base b : Nat} {t : Int} {vr vw vw' : Value} {rs : List St} {us : List (Value × Int)} {zs : List (List Int × Int)} (h : KpB w base b t vr vw rs us zs) (u : Value × Int) (z : List Int × Int) (hz : u.2 = z.2) (hr : Rd w u.1 z.1) (hb : ∀ g, u.1.ownBlock = some g → base ≤ g ∧ ∃ cur fz, w.heap[g]? = some (.cells cur 3 fz)) (hg : w.grownBy w1 vw.ownBlock) (own : w1.ownsRow base 86 2 vw' (us.length + 1) (hdCells us ++ [u.1, .int .i64 u.2])) :
    KpB (w1.setCell ⟨b, 2, none⟩ vw') base b t vr vw' rs (us ++ [u]) (zs ++ [z]) ∧ Tk base b w (w1.setCell ⟨b, 2, none⟩ vw') := by
  have htk : Tk base b w w1 := Tk.grown h.wr hg h.le h.lt
  have hne : ∀ k cur fz e, e ≠ 86 → w.heap[k]? = some (.cells cur e fz) → vw.ownBlock ≠ some k := fun k cur fz e he hk e2 => by
    rcases h.wr.2 with ⟨h1, _⟩ | ⟨g, cap, cur2, h1, h3, h4, _⟩
    · rw [h1] at e2; cases e2
    · rw [h1] at e2
      obtain rfl := Option.some.inj e2
      rw [show w.heap[g]? = _ from h4] at hk
      cases hk
      exact he rfl
  have hbv : vw.ownBlock ≠ some b := fun e => by have := (h.wr.lt b e).1; have := h.lt; omega
  have hblt : b < w.heap.size := Nat.lt_of_lt_of_le h.lt h.le
  have hb1 : w1.heap[b]? = w.heap[b]? := hg.block b hblt (fun e => hbv e.symm)
  have hc := fun o => World.cell?_of_block (w := w) (w' := w1) (a := ⟨b, o, none⟩) hb1
  have hf := fun o => World.frozen?_of_block (w := w) (w' := w1) (a := ⟨b, o, none⟩) hb1
  have hkk : ∀ k cur e fz, e ≠ 86 → base ≤ k → w.heap[k]? = some (.cells cur e fz) → (w1.setCell ⟨b, 2, none⟩ vw').heap[k]? = w.heap[k]? := fun k cur e fz he hbk hk =>
    (Below.heap_setCell _ _ _ _ (show k ≠ b by have := h.lt; omega)).trans (hg.block k (Array.getElem?_eq_some_iff.1 hk).1 (fun e2 => hne k cur fz e he hk e2.symm))
  have hsz : w.heap.size ≤ (w1.setCell ⟨b, 2, none⟩ vw').heap.size := by have := hg.size; simpa using this
  have old : ∀ (u' : Value × Int) (z' : List Int × Int), u'.2 = z'.2 ∧ Rd w u'.1 z'.1 ∧ (∀ g, u'.1.ownBlock = some g → base ≤ g ∧ ∃ cur fz, w.heap[g]? = some (.cells cur 3 fz)) → u'.2 = z'.2 ∧ Rd (w1.setCell ⟨b, 2, none⟩ vw') u'.1 z'.1 ∧ ∀ g, u'.1.ownBlock = some g → base ≤ g ∧ ∃ cur fz, (w1.setCell ⟨b, 2, none⟩ vw').heap[g]? = some (.cells cur 3 fz) := fun u' z' ⟨q1, q2, q3⟩ => by
    refine ⟨q1, q2.block (fun k _ e => ?_) hsz, fun g hg2 => ?_⟩
    · obtain ⟨h1, cur, fz, h2⟩ := q3 k e
      exact hkk _ _ _ _ (by decide) h1 h2
    · obtain ⟨h1, cur, fz, h2⟩ := q3 g hg2
      exact ⟨h1, cur, fz, (hkk _ _ _ _ (by decide) h1 h2).trans h2⟩
  refine ⟨⟨by simp [go_sem, hc, h.c0], by simp [go_sem, hc, h.c1], by simp [go_sem, hc, h.c2], by simp [hf, h.f0], by simp [hf, h.f1], by simp [hf, h.f2], h.lt, Nat.le_trans h.le hsz, ?_, by rw [hdCells_snoc, List.length_append, List.length_singleton]; exact ownsRow_setCell_below own (a := ⟨b, 2, none⟩) h.lt _, by simp [h.ul], fun i u' z' hu hz' => ?_⟩, htk.trans (Tk.set base w1 2 vw')⟩
  · refine own_block h.rr (fun k hk => ?_)
    rcases h.rr.2 with ⟨h1, _⟩ | ⟨g, cap, cur, h1, h3, h4, _⟩
    · rw [h1] at hk; cases hk
    · rw [h1] at hk
      obtain rfl := Option.some.inj hk
      exact hkk _ _ _ _ (by decide) h3 h4
  · by_cases hi : i < us.length
    · rw [List.getElem?_append_left hi] at hu
      rw [List.getElem?_append_left (by rw [← h.ul]; exact hi)] at hz'
      exact old u' z' (h.at_ i u' z' hu hz')
    · rw [List.getElem?_append_right (by omega)] at hu
      rw [List.getElem?_append_right (by have := h.ul; omega)] at hz'
      have hi2 : i - us.length = 0 := by have := (List.getElem?_eq_some_iff.1 hu).1; simp at this; omega
      rw [hi2] at hu
      rw [show i - zs.length = 0 by have := h.ul; omega] at hz'
      simp at hu hz'
      subst hu
      subst hz'
      exact old u z ⟨hz, hr, hb⟩
end Go.Proofs.YtfconbblnmbnpahGreatDoor
namespace Go.Proofs.YtfconbblnmbnpahGreatDoor
open Go.RowKit

theorem infoStr : (Tryz.prog.info? 9).map (fun i => (i.zero, i.size, i.bytes)) = some (some (.string ⟨#[]⟩), 1, 16) := by kernel_rfl
def strs (ls : List (List UInt8)) : List Value := ls.map fun l => .string ⟨l.toArray⟩
theorem ext_eq (s : ByteArray) (f k : Nat) : s.extract f k = ⟨((s.data.toList.take k).drop f).toArray⟩ := by
  apply ByteArray.ext
  apply Array.toList_inj.1
  simp [List.drop_take]

set_option maxRecDepth 1000000 in
set_option maxHeartbeats 4000000 in
theorem cut_any (s : ByteArray) (c : UInt8) (ci : Int) (hci : ci = (c.toNat : Int)) (w : World) (hs : s.size ≤ 1099511627776) :
    Calls Tryz.prog 45 #[.string s, .int .u8 ci] w fun e w' => ∃ v, e = .returned v ∧ w'.ownsRow w.heap.size 9 1 v (cutB c s.data.toList).length (strs (cutB c s.data.toList)) ∧ Below w.heap.size w w' := by
  obtain ⟨ii, hi, hz0, hz1, hz2⟩ := info_parts infoStr
  have hsl : s.data.toList.length = s.size := by simp
  have HC : Hid (ci = (c.toNat : Int)) := hci
  clear hci
  go_enter Tryz.func45, Tryz.ntmps45
  go_wp2
  go_loopw [5, 6, 7] (fun v f i wr => ∃ (k fr : Nat) (pre : List (List UInt8)), k ≤ s.size ∧ fr ≤ k ∧ pre.length ≤ k ∧ i = .int .i64 k ∧ f = .int .i64 fr ∧ wr.ownsRow w.heap.size 9 1 v pre.length (strs pre) ∧ Below w.heap.size w wr ∧
      pre ++ cutGo c ((s.data.toList.take k).drop fr) (s.data.toList.drop k) = cutB c s.data.toList) (fun _ _ i _ => s.size - (intOf i).toNat)
  case atStart => exact ⟨0, 0, [], by omega, by omega, by simp, rfl, rfl, World.ownsRow_nil _ _ _ _, Below.refl _ _, by simp [cutB]⟩
  case round =>
    obtain ⟨k, fr, pre, hk, hfr, hpl, rfl, rfl, hown, hb, hinv⟩ := hrel
    have HI : Hid (pre ++ cutGo c ((s.data.toList.take k).drop fr) (s.data.toList.drop k) = cutB c s.data.toList) := hinv
    clear hinv
    have hsz := hb.size
    by_cases hkl : k < s.size
    · have hkl' : k < s.data.toList.length := by omega
      have hgd : s[k] = s.data.toList[k] := rfl
      by_cases hx : s.data.toList[k] = c
      · have ht : ((s[k].toNat : Int) == ci) = true := by rw [HC.out, hgd, hx]; simp
        have HX : Hid (s.data.toList[k] = c) := hx
        clear hx hgd
        go_wp2_with (at_builtin; refine wpList_append_own _ rfl _ _ 103 rfl w.heap.size 9 ii (.string ⟨#[]⟩) 1 16 Tryz.underlying103 hi hz0 hz1 hz2 rfl (by decide) _ _ _ rfl (hown.alloc _) ⟨wr.heap.size, 0, none⟩ 1 1 [.string (s.extract fr k)] rfl rfl ?c1A ?c2A ?c3A ?c4A ?c5A ?_)
        case c1A =>
          intro j u hj
          match j, hj with
          | 0, hj => simp at hj; subst hj; simp [Addr.add]
        case c2A => intro u hu; simp at hu; subst hu; rfl
        case c3A => unfold maxLen; omega
        case c4A => omega
        case c5A => simp; omega
        intro v' w1 hown' hgrow _
        have hb1 : Below w.heap.size w w1 := (hb.alloc hsz _).grown hgrow (by simp; omega) (fun j hj => (hown.lt j hj).1)
        have R : w1.ownsRow w.heap.size 9 1 v' (pre ++ [(s.data.toList.take k).drop fr]).length (strs (pre ++ [(s.data.toList.take k).drop fr])) := by
          simpa [strs, ext_eq] using hown'
        clear hown' hgrow hown
        go_wp2
        go_roundw
        case rel =>
          refine ⟨k + 1, k + 1, pre ++ [(s.data.toList.take k).drop fr], by omega, by omega, by simp; omega, by go_num, by go_num, R, hb1, ?_⟩
          rw [← HI.out, drop_step hkl', cutGo_hit HX.out]
          simp
        case measure => simp [intOf]; omega
      · have ht : ((s[k].toNat : Int) == ci) = false := by
          rw [HC.out, hgd]
          simp only [beq_eq_false_iff_ne, ne_eq]
          intro e
          exact hx (UInt8.toNat_inj.1 (by omega))
        have HX : Hid (s.data.toList[k] ≠ c) := hx
        clear hx hgd
        go_wp2
        go_roundw
        case rel =>
          refine ⟨k + 1, fr, pre, by omega, by omega, by omega, by go_num, rfl, hown, hb, ?_⟩
          rw [← HI.out, drop_step hkl', cutGo_miss HX.out, piece_step hkl' hfr]
        case measure => simp [intOf]; omega
    · have hke : k = s.size := by omega
      subst hke
      go_wp2_with (at_builtin; refine wpList_append_own _ rfl _ _ 103 rfl w.heap.size 9 ii (.string ⟨#[]⟩) 1 16 Tryz.underlying103 hi hz0 hz1 hz2 rfl (by decide) _ _ _ rfl (hown.alloc _) ⟨wr.heap.size, 0, none⟩ 1 1 [.string (s.extract fr s.size)] rfl rfl ?c1B ?c2B ?c3B ?c4B ?c5B ?_)
      case c1B =>
        intro j u hj
        match j, hj with
        | 0, hj => simp at hj; subst hj; simp [Addr.add]
      case c2B => intro u hu; simp at hu; subst hu; rfl
      case c3B => unfold maxLen; omega
      case c4B => omega
      case c5B => simp; omega
      intro v' w1 hown' hgrow _
      have hb1 : Below w.heap.size w w1 := (hb.alloc hsz _).grown hgrow (by simp; omega) (fun j hj => (hown.lt j hj).1)
      have hcut : cutB c s.data.toList = pre ++ [(s.data.toList.take s.size).drop fr] := by
        rw [← HI.out, show s.data.toList.drop s.size = [] from List.drop_of_length_le (by omega)]; rfl
      have R : w1.ownsRow w.heap.size 9 1 v' (cutB c s.data.toList).length (strs (cutB c s.data.toList)) := by
        rw [hcut]
        simpa [strs, ext_eq] using hown'
      clear hown' hgrow hown hcut
      obtain ⟨g, n', cap, rfl⟩ : ∃ g n' cap, v' = .slice g n' cap := by
        rcases R.2 with ⟨h, _⟩ | ⟨g, cap, cur, h, _⟩
        · exact ⟨_, _, _, h⟩
        · exact ⟨_, _, _, h⟩
      go_wp2
      go_ret
      exact ⟨_, rfl, R, hb1⟩
end Go.Proofs.YtfconbblnmbnpahGreatDoor
namespace Go.Proofs.YtfconbblnmbnpahGreatDoor
open Go.RowKit

/-- A slice of texts that can be read in the world. -/
def Strs (w : World) (v : Value) (ls : List (List UInt8)) : Prop := ∃ g cap, v = .slice (some ⟨g, 0, none⟩) ls.length cap ∧ g < w.heap.size ∧ ∀ (i : Nat) l, ls[i]? = some l → w.cell? ⟨g, i, none⟩ = some (.string ⟨l.toArray⟩)
theorem Strs.all {w w' : World} {v : Value} {ls : List (List UInt8)} (h : Strs w v ls) (hb : Below w.heap.size w w') : Strs w' v ls := by
  obtain ⟨g, cap, rfl, hg, hc⟩ := h
  exact ⟨g, cap, rfl, Nat.lt_of_lt_of_le hg hb.size, fun i l hl => (hb.cell (p := ⟨g, i, none⟩) hg).trans (hc i l hl)⟩
theorem strs_of_own {w : World} {base : Nat} {v : Value} {ls : List (List UInt8)} (h : w.ownsRow base 9 1 v ls.length (strs ls)) (h1 : 1 ≤ ls.length) : Strs w v ls := by
  have hl := h.lt
  have hcs := @World.ownsRow.cells _ _ _ _ _ _ _ h
  rcases h.2 with ⟨rfl, h0⟩ | ⟨g, cap, cur, rfl, _⟩
  · omega
  · refine ⟨g, cap, rfl, (hl g rfl).2, fun i l hz => ?_⟩
    have := hcs rfl i (.string ⟨l.toArray⟩) (by simp [strs, hz])
    have e : (⟨g, 0, none⟩ : Addr).add i = ⟨g, i, none⟩ := by
      unfold Addr.add
      split
      · rename_i h; subst h; rfl
      · simp
    rwa [e] at this
theorem numsOf_split {ls : List (List UInt8)} {k : Nat} {p : List UInt8} (h : ls[k]? = some p) : ls = ls.take k ++ p :: ls.drop (k + 1) := by
  have hk := (List.getElem?_eq_some_iff.1 h).1
  have e := (List.getElem?_eq_some_iff.1 h).2
  have := List.take_append_drop k ls
  rw [List.drop_eq_getElem_cons hk, e] at this
  exact this.symm
theorem take_at {α : Type} {ls : List α} {k : Nat} {p : α} (h : ls[k]? = some p) : ls.take (k + 1) = ls.take k ++ [p] := by
  have hk := (List.getElem?_eq_some_iff.1 h).1
  have e := (List.getElem?_eq_some_iff.1 h).2
  rw [List.take_succ_eq_append_getElem hk, e]

end Go.Proofs.YtfconbblnmbnpahGreatDoor
namespace Go.Proofs.YtfconbblnmbnpahGreatDoor
open Go.RowKit

theorem piece_len {c : UInt8} : ∀ (l cur : List UInt8) (p : List UInt8), p ∈ cutGo c cur l → p.length ≤ cur.length + l.length
  | [], cur, p, h => by simp [cutGo] at h; subst h; simp
  | x :: xs, cur, p, h => by
    by_cases hx : x = c
    · rw [cutGo_hit hx] at h
      rcases List.mem_cons.1 h with rfl | h
      · simp
      · have := piece_len xs [] p h
        simp at this ⊢
        omega
    · rw [cutGo_miss hx] at h
      have := piece_len xs _ p h
      simp at this ⊢
      omega
end Go.Proofs.YtfconbblnmbnpahGreatDoor
namespace Go.Proofs.YtfconbblnmbnpahGreatDoor
open Go.RowKit

theorem sizeBuilder : (Tryz.prog.info? 99).map (·.size) = some 2 := by kernel_rfl
theorem liesBuilder : liesAt Tryz.prog Tryz.prog.depth 99 (2 / Tryz.prog.cellsOf 99) 0 99 1 = true := by kernel_rfl
theorem infoByte : (Tryz.prog.info? 5).map (fun i => (i.zero, i.size, i.bytes)) = some (some (.int .u8 0), 1, 1) := by kernel_rfl

set_option maxHeartbeats 1000000 in
set_option maxRecDepth 100000 in
theorem copyCheck_used (b : Nat) (w : World) (h0 : w.cell? ⟨b, 0, none⟩ = some (.pointer (some ⟨b, 0, none⟩))) :
    Calls Tryz.prog 82 #[.pointer (some ⟨b, 0, none⟩)] w fun e w' => e = .returned (.tuple #[]) ∧ w' = w := by
  obtain ⟨j, hj, _⟩ := Option.map_eq_some_iff.1 sizeBuilder
  go_enter Tryz.func82, Tryz.ntmps82
  go_wp2
  rw [Lib.run_neq_ptr_same w _ Tryz.underlying96 hj]
  go_wp2
  go_end0
  exact ⟨rfl, rfl⟩

set_option maxHeartbeats 1000000 in
set_option maxRecDepth 100000 in
theorem copyCheck_fresh (b : Nat) (w : World) (h0 : w.cell? ⟨b, 0, none⟩ = some (.pointer none)) (hsh : w.shape? b = some (99, 2)) (hfz : w.frozen? ⟨b, 0, none⟩ = false) :
    Calls Tryz.prog 82 #[.pointer (some ⟨b, 0, none⟩)] w fun e w' => e = .returned (.tuple #[]) ∧ w' = w.setCell ⟨b, 0, none⟩ (.pointer (some ⟨b, 0, none⟩)) := by
  obtain ⟨j, hj, hjs⟩ := Option.map_eq_some_iff.1 sizeBuilder
  go_enter Tryz.func82, Tryz.ntmps82
  go_wp2
  rw [Lib.run_to_unsafe w ⟨b, 0, none⟩ Tryz.underlying96 Tryz.underlying205 hj (by rw [hjs]; decide) hsh (Nat.zero_lt_succ 1)]
  simp only [Result.andThen]
  rw [Oper.upon_value]
  go_wp2
  rw [run_callFunc_extern Tryz.func121 (by kernel_rfl) (by kernel_rfl) (by kernel_rfl) (e := Extern.AbiNoEscape.same) (by kernel_rfl)]
  rw [Lib.run_noEscape]
  simp only [Result.andThen]
  rw [Oper.upon_value]
  go_wp2
  rw [Lib.run_from_unsafe w ⟨b, 0, none⟩ Tryz.underlying205 Tryz.underlying96 hj hsh liesBuilder]
  simp only [Result.andThen]
  rw [Oper.upon_value]
  go_wp2
  go_end0
  exact ⟨rfl, rfl⟩

theorem copyCheck_any (B b : Nat) (bs : List Value) (w : World) (h : Lib.IsBuilderF 99 5 B b bs w) :
    Calls Tryz.prog 82 #[.pointer (some ⟨b, 0, none⟩)] w fun e w' => e = .returned (.tuple #[]) ∧ Lib.BuilderAtF 99 5 B b (.pointer (some ⟨b, 0, none⟩)) bs w' ∧ Below B w w' ∧ Lib.OthersKept 5 (some b) w w' := by
  rcases h with h | h
  · refine (copyCheck_fresh b w h.cell0 h.shape h.frozen0).mono ?_
    rintro e w' ⟨rfl, rfl⟩
    exact ⟨rfl, h.used _, (Below.refl B w).setCell (p := ⟨b, 0, none⟩) h.1 _, (Lib.OthersKept.refl _ _ w).setCell ⟨b, 0, none⟩ rfl _⟩
  · refine (copyCheck_used b w h.cell0).mono ?_
    rintro e w' ⟨rfl, rfl⟩
    exact ⟨rfl, h, Below.refl B _, Lib.OthersKept.refl _ _ _⟩

set_option maxHeartbeats 2000000 in
set_option maxRecDepth 100000 in
theorem writeByte_any (B b : Nat) (bs : List Value) (c : Int) (w : World) (h : Lib.IsBuilderF 99 5 B b bs w) (hlen : bs.length + 1 ≤ 140737488355328) (hBw : B ≤ w.heap.size) :
    Calls Tryz.prog 123 #[.pointer (some ⟨b, 0, none⟩), .int .u8 c] w fun e w' => e = .returned .nilIface ∧ Lib.BuilderAtF 99 5 B b (.pointer (some ⟨b, 0, none⟩)) (bs ++ [.int .u8 c]) w' ∧ Below B w w' ∧ Lib.OthersKept 5 (some b) w w' := by
  obtain ⟨i0, hi, hz0, hz1, hz2⟩ := info_parts infoByte
  go_enter Tryz.func123, Tryz.ntmps123
  go_wp2_with (go_at_call 82; refine (copyCheck_any B b bs _ h).mono ?_)
  rintro e w1 ⟨rfl, h1, hb1, hk1⟩
  obtain ⟨hB, v, hbk, hown, hne⟩ := h1
  have c0 : w1.cell? ⟨b, 0, none⟩ = some (.pointer (some ⟨b, 0, none⟩)) := by rw [Lib.cell_of_heap hbk]; rfl
  have c1 : w1.cell? ⟨b, 1, none⟩ = some v := by rw [Lib.cell_of_heap hbk]; rfl
  go_wp2_with (at_builtin; refine wpList_append_ownF _ rfl _ _ 97 rfl B 5 i0 (.int .u8 0) 1 1 Tryz.underlying97 hi hz0 hz1 hz2 rfl (by decide) _ _ _ rfl (hown.alloc _) ⟨w1.heap.size, 0, none⟩ 1 1 [.int .u8 c] rfl rfl ?c1 ?c2 ?c3 ?c4 ?c5 ?_)
  case c1 =>
    intro j u hj
    match j, hj with
    | 0, hj => simp at hj; subst hj; simp [Addr.add]
  case c2 => intro u hu; simp at hu; subst hu; rfl
  case c3 => unfold maxLen; omega
  case c4 => omega
  case c5 => have := hb1.size; simp; omega
  intro v' w2 hown' hgrow _
  have hlt : b < w1.heap.size := by
    rcases Nat.lt_or_ge b w1.heap.size with h' | h'
    · exact h'
    · simp [Array.getElem?_eq_none h'] at hbk
  have hb2 : w2.heap[b]? = some (.cells #[.pointer (some ⟨b, 0, none⟩), v] 99 (0, 0)) := by
    rw [hgrow.block b (by simp; omega) (fun e => hne e.symm), Lib.alloc_old w1 _ b hlt]
    exact hbk
  have d0 : w2.cell? ⟨b, 0, none⟩ = some (.pointer (some ⟨b, 0, none⟩)) := by rw [Lib.cell_of_heap hb2]; rfl
  have d1 : w2.cell? ⟨b, 1, none⟩ = some v := by rw [Lib.cell_of_heap hb2]; rfl
  have f1 : w2.frozen? ⟨b, 1, none⟩ = false := Lib.frozen_of_heap hb2 1
  obtain ⟨g, cap, rfl⟩ : ∃ g cap, v' = .slice (some ⟨g, 0, none⟩) (bs.length + 1) cap := by
    rcases hown'.2 with ⟨_, h0⟩ | ⟨g, cap, cur, fz, hv, _⟩
    · omega
    · exact ⟨g, cap, hv⟩
  go_wp2
  go_ret
  refine ⟨rfl, ?_, ?_, ((hk1.alloc _).grown hgrow (Lib.ownsRowF_kind (hown.alloc _))).setCell ⟨b, 1, none⟩ rfl _⟩
  · exact Lib.BuilderAtF.put (T := 99) (e := 5) hB hb2 (bs' := bs ++ [.int .u8 c]) (by simpa using hown') (by decide)
  · exact ((hb1.alloc (by have := hb1.size; omega) _).grown hgrow (by have := hb1.size; simp; omega) (fun k hk => (hown.lt k hk).1)).setCell (p := ⟨b, 1, none⟩) hB _

set_option maxHeartbeats 2000000 in
set_option maxRecDepth 100000 in
theorem writeString_any (B b : Nat) (bs : List Value) (s : ByteArray) (w : World) (h : Lib.IsBuilderF 99 5 B b bs w) (hlen : bs.length + s.size ≤ 140737488355328) (hBw : B ≤ w.heap.size) :
    Calls Tryz.prog 41 #[.pointer (some ⟨b, 0, none⟩), .string s] w fun e w' => e = .returned (.tuple #[.int .i64 s.size, .nilIface]) ∧ Lib.BuilderAtF 99 5 B b (.pointer (some ⟨b, 0, none⟩)) (bs ++ Lib.strCells s) w' ∧ Below B w w' ∧ Lib.OthersKept 5 (some b) w w' := by
  obtain ⟨i0, hi, hz0, hz1, hz2⟩ := info_parts infoByte
  go_enter Tryz.func41, Tryz.ntmps41
  go_wp2_with (go_at_call 82; refine (copyCheck_any B b bs _ h).mono ?_)
  rintro e w1 ⟨rfl, h1, hb1, hk1⟩
  obtain ⟨hB, v, hbk, hown, hne⟩ := h1
  have c0 : w1.cell? ⟨b, 0, none⟩ = some (.pointer (some ⟨b, 0, none⟩)) := by rw [Lib.cell_of_heap hbk]; rfl
  have c1 : w1.cell? ⟨b, 1, none⟩ = some v := by rw [Lib.cell_of_heap hbk]; rfl
  go_wp2_with (at_builtin; refine Lib.wpList_append_own_stringF _ rfl _ _ 97 9 rfl B 5 i0 Tryz.underlying97 Tryz.underlying9 hi hz0 hz1 hz2 _ _ _ rfl hown s rfl ?c3 ?c4 ?c5 ?_)
  case c3 => unfold maxLen; omega
  case c4 => omega
  case c5 => have := hb1.size; omega
  intro v' w2 hown' hgrow _
  have hlt : b < w1.heap.size := by
    rcases Nat.lt_or_ge b w1.heap.size with h' | h'
    · exact h'
    · simp [Array.getElem?_eq_none h'] at hbk
  have hb2 : w2.heap[b]? = some (.cells #[.pointer (some ⟨b, 0, none⟩), v] 99 (0, 0)) := by
    rw [hgrow.block b hlt (fun e => hne e.symm)]
    exact hbk
  have d0 : w2.cell? ⟨b, 0, none⟩ = some (.pointer (some ⟨b, 0, none⟩)) := by rw [Lib.cell_of_heap hb2]; rfl
  have d1 : w2.cell? ⟨b, 1, none⟩ = some v := by rw [Lib.cell_of_heap hb2]; rfl
  have f1 : w2.frozen? ⟨b, 1, none⟩ = false := Lib.frozen_of_heap hb2 1
  obtain ⟨ao, n', cap, rfl⟩ : ∃ ao n' cap, v' = .slice ao n' cap := by
    rcases hown'.2 with ⟨hv, _⟩ | ⟨g, cap, cur, fz, hv, _⟩
    · exact ⟨_, _, _, hv⟩
    · exact ⟨_, _, _, hv⟩
  go_wp2
  go_ret2
  refine ⟨rfl, ?_, ?_, (hk1.grown hgrow (Lib.ownsRowF_kind hown)).setCell ⟨b, 1, none⟩ rfl _⟩
  · exact Lib.BuilderAtF.put (T := 99) (e := 5) hB hb2 (bs' := bs ++ Lib.strCells s) (by simpa [Lib.strCells_length] using hown') (by decide)
  · exact (hb1.grown hgrow (by have := hb1.size; omega) (fun k hk => (hown.lt k hk).1)).setCell (p := ⟨b, 1, none⟩) hB _
end Go.Proofs.YtfconbblnmbnpahGreatDoor
namespace Go.Proofs.YtfconbblnmbnpahGreatDoor
open Go.RowKit

theorem bld_all {w w' : World} {T e : TypeId} {B b : Nat} {p : Value} {bs : List Value} (h : Lib.BuilderAtF T e B b p bs w) (hb : Below w.heap.size w w') : Lib.BuilderAtF T e B b p bs w' := by
  have hl := h.lt
  obtain ⟨hB, v, hbk, hown, hne⟩ := h
  exact ⟨hB, v, (hb.block b hl).trans hbk, hown.kept (grown_of_below hb) (by cases v.ownBlock <;> simp), hne⟩
theorem isb_all {w w' : World} {T e : TypeId} {B b : Nat} {bs : List Value} (h : Lib.IsBuilderF T e B b bs w) (hb : Below w.heap.size w w') : Lib.IsBuilderF T e B b bs w' := by
  rcases h with h | h
  · exact Or.inl (bld_all h hb)
  · exact Or.inr (bld_all h hb)
/-- The table of powers of ten lies where the program laid it. -/
def Pow10 (w : World) : Prop := Lib.TabIs Tryz.prog w "internal/strconv.uint64pow10" .u64 Lib.pow10Tab
theorem gPow : Tryz.prog.globalNamed "internal/strconv.uint64pow10" = some 3 := by kernel_rfl
theorem Pow10.all {w w' : World} (h : Pow10 w) (hb : Below w.heap.size w w') : Pow10 w' := Joins.tab_stays gPow h hb (Nat.le_refl _)

/-- Both tables. -/
structure Tabs (w : World) : Prop where
  forms : Forms w
  pow : Pow10 w
theorem Tabs.all {w w' : World} (h : Tabs w) (hb : Below w.heap.size w w') : Tabs w' := ⟨h.forms.all hb, h.pow.all hb⟩
theorem Tabs.alloc {w : World} (h : Tabs w) (o : Obj) : Tabs (w.alloc o) := h.all ((Below.refl _ _).alloc (Nat.le_refl _) _)

theorem itoa_any (n : Int) (h0 : -9223372036854775808 ≤ n) (h1 : n ≤ 9223372036854775807) (w : World) (hp : Pow10 w) :
    Calls Tryz.prog 83 #[.int .i64 n] w fun e w' => e = .returned (.string ⟨(Lib.itoa n).toArray⟩) ∧ Below w.heap.size w w' := by
  refine (Tryz.strconv_Itoa n h0 h1 w hp).mono ?_
  rintro e w' ⟨rfl, k, os, rfl⟩
  exact ⟨rfl, Lib.below_grow _ _ (Nat.le_refl _) _ _⟩
end Go.Proofs.YtfconbblnmbnpahGreatDoor
namespace Go.Proofs.YtfconbblnmbnpahGreatDoor
open Go.ChangeShapes Go.WideShapes Go.ChangeAt Go.WideElems Go.RowKit

theorem gForms : Tryz.prog.globalNamed "framekeep/code.forms" = some 2 := by kernel_rfl
theorem tForms : (Tryz.prog.globals[2]?).map (·.type) = some 295 := by kernel_rfl
theorem tPow : (Tryz.prog.globals[3]?).map (·.type) = some 296 := by kernel_rfl
theorem cStr : Tryz.prog.cellsOf 9 = 1 := by kernel_rfl
theorem cInt : Tryz.prog.cellsOf 3 = 1 := by kernel_rfl
theorem cTwo : Tryz.prog.cellsOf 292 = 2 := by kernel_rfl
theorem cForm : Tryz.prog.cellsOf 294 = 3 := by kernel_rfl
theorem cU64 : Tryz.prog.cellsOf 274 = 1 := by kernel_rfl
theorem cPow : Tryz.prog.cellsOf 296 = 20 := by kernel_rfl

theorem len2 {α : Type} {l : List α} (h : l.length = 2) : ∃ a b, l = [a, b] := by
  match l, h with
  | [a, b], _ => exact ⟨a, b, rfl⟩
theorem len3 {α : Type} {l : List α} (h : l.length = 3) : ∃ a b c, l = [a, b, c] := by
  match l, h with
  | [a, b, c], _ => exact ⟨a, b, c, rfl⟩
theorem two_one {H : Type} {enc : TypeId × Value → H} {w : World} {base : Nat} {sp : Nat → Bool} {held : Bool} {fuel : Nat} {cs : List Value} {p q : Int} {pl : List MemPlace}
    (h : DataW.trod enc Tryz.prog w base sp held fuel 292 cs = some (.agg [.lit (.int .i64 p), .lit (.int .i64 q)], pl)) : cs = [.int .i64 p, .int .i64 q] := by
  have := Lib.cells_of_tab (k := .i64) (zs := [p, q]) Tryz.underlying292 Tryz.underlying3 cInt cTwo h
  simpa using this
theorem form_one {H : Type} {enc : TypeId × Value → H} {w : World} {base : Nat} {sp : Nat → Bool} {held : Bool} {fuel : Nat} {cs : List Value} {s : List UInt8} {p q : Int} {pl : List MemPlace}
    (h : DataW.trod enc Tryz.prog w base sp held fuel 294 cs = some (.agg [.lit (.string s), .agg [.lit (.int .i64 p), .lit (.int .i64 q)]], pl)) : cs = [.string ⟨s.toArray⟩, .int .i64 p, .int .i64 q] := by
  obtain ⟨xs, n, _, hx, hl, hxl, hf⟩ := DataW.trod_struct Tryz.underlying294 h
  rw [cForm] at hl
  have f0 : DataW.trod enc Tryz.prog w base sp held n 9 ((cs.drop 0).take (Tryz.prog.cellsOf 9)) = xs[0]? := hf 0 _ rfl
  have f1 : DataW.trod enc Tryz.prog w base sp held n 292 ((cs.drop 1).take (Tryz.prog.cellsOf 292)) = xs[1]? := hf 1 _ rfl
  rw [cStr] at f0
  rw [cTwo] at f1
  simp only [Prod.mk.injEq, DataW.agg.injEq] at hx
  obtain ⟨c0, c1, c2, rfl⟩ := len3 hl
  have hxl2 : xs.length = 2 := hxl
  obtain ⟨x0, x1, rfl⟩ := len2 hxl2
  simp only [List.map_cons, List.map_nil, List.cons.injEq, and_true] at hx
  simp at f0 f1
  obtain ⟨y0, z0⟩ := x0
  obtain ⟨y1, z1⟩ := x1
  simp only at hx
  rw [← hx.1.1] at f0
  rw [← hx.1.2] at f1
  obtain ⟨b, hb, hb2, _⟩ := DataW.trod_string Tryz.underlying9 f0
  simp only [Prod.mk.injEq, DataW.lit.injEq, Lit.string.injEq] at hb2
  have h2 := two_one f1
  simp only [List.cons.injEq, and_true] at hb h2
  obtain ⟨rfl, rfl⟩ := h2
  rw [hb, hb2.1]

/-- The rows of the table of forms. -/
def formRows : List (List UInt8 × Int × Int) := [([], 0, 0), ([115, 101, 116], 6, 1000), ([99, 111, 112, 121], 6, 6), ([97, 100, 100], 6, 6), ([115, 117, 98], 6, 6), ([109, 117, 108], 6, 6), ([122, 101, 114, 111], 6, 0), ([106, 117, 109, 112], 1, 0), ([115, 101, 110, 100], 6, 12), ([116, 97, 107, 101], 6, 12), ([114, 101, 115, 116], 1, 1), ([102, 97, 105, 108], 1, 1)]
def formD {H : Type} (r : List UInt8 × Int × Int) : DataW H := .agg [.lit (.string r.1), .agg [.lit (.int .i64 r.2.1), .lit (.int .i64 r.2.2)]]
theorem forms_of_head {W : World} {rest : List (String × DataW Unit)} (h : laidMet Tryz.prog (("framekeep/code.forms", .agg (formRows.map formD)) :: rest) W) : Forms W := by
  obtain ⟨ps, ⟨g', t', cs, fuel, p, q, hg', ht', hvar, hd, _, _⟩, _⟩ := h
  obtain rfl := Option.some.inj (gForms.symm.trans hg')
  obtain rfl := Option.some.inj (tForms.symm.trans ht')
  obtain ⟨xs, m, _, hx, _, hxl, hel⟩ := DataW.trod_array Tryz.underlying295 hd
  simp only [Prod.mk.injEq, DataW.agg.injEq] at hx
  have hrow : ∀ (i : Nat) r, formRows[i]? = some r → (cs.toList.drop (i * 3)).take 3 = [.string ⟨r.1.toArray⟩, .int .i64 r.2.1, .int .i64 r.2.2] := by
    intro i r hr
    have hi : i < 12 := by
      rcases Nat.lt_or_ge i 12 with h | h
      · exact h
      · rw [List.getElem?_eq_none (show formRows.length ≤ i from h)] at hr; cases hr
    have e1 := hel i hi
    rw [cForm] at e1
    have e2 : (xs.map (·.1))[i]? = some (formD r) := by rw [← hx.1]; simp [hr]
    simp only [List.getElem?_map, Option.map_eq_some_iff] at e2
    obtain ⟨⟨y, z⟩, hy, rfl⟩ := e2
    rw [hy] at e1
    exact form_one e1
  have hcell := fun i => World.var?_cell hg' hvar i
  have hat : ∀ (i j : Nat) r u, formRows[i]? = some r → j < 3 → ([.string ⟨r.1.toArray⟩, .int .i64 r.2.1, .int .i64 r.2.2] : List Value)[j]? = some u → W.cell? ⟨2, i * 3 + j, none⟩ = some u := by
    intro i j r u hr hj hu
    rw [← hrow i r hr] at hu
    rw [List.getElem?_take, if_pos hj, List.getElem?_drop] at hu
    rw [hcell]
    simpa using hu
  intro i v hv
  have hi : i < 36 := by
    rcases Nat.lt_or_ge i 36 with h | h
    · exact h
    · rw [List.getElem?_eq_none (show formsCells.length ≤ i from h)] at hv; cases hv
  have key : ∀ i, i < 36 → ∀ v, formsCells[i]? = some v → ∃ r, formRows[i / 3]? = some r ∧ ([.string ⟨r.1.toArray⟩, .int .i64 r.2.1, .int .i64 r.2.2] : List Value)[i % 3]? = some v := by
    intro i hi v hv
    match i, hi with
    | 0, _ | 1, _ | 2, _ | 3, _ | 4, _ | 5, _ | 6, _ | 7, _ | 8, _ | 9, _ | 10, _ | 11, _ | 12, _ | 13, _ | 14, _ | 15, _ | 16, _ | 17, _ | 18, _ | 19, _ | 20, _ | 21, _ | 22, _ | 23, _ | 24, _ | 25, _ | 26, _ | 27, _ | 28, _ | 29, _ | 30, _ | 31, _ | 32, _ | 33, _ | 34, _ | 35, _ => exact ⟨_, rfl, hv⟩
    | i + 36, h => omega
  obtain ⟨r, h1, h2⟩ := key i hi v hv
  have := hat (i / 3) (i % 3) r v h1 (Nat.mod_lt _ (by decide)) h2
  rwa [show i / 3 * 3 + i % 3 = i by omega] at this
theorem pow_of_head {W : World} {rest : List (String × DataW Unit)} (h : laidMet Tryz.prog (("internal/strconv.uint64pow10", Lib.tabData .u64 Lib.pow10Tab) :: rest) W) : Pow10 W :=
  Lib.tabIs_of_head gPow tPow Tryz.underlying296 Tryz.underlying274 cU64 cPow h
end Go.Proofs.YtfconbblnmbnpahGreatDoor
namespace Go.Proofs.YtfconbblnmbnpahGreatDoor
open Go.RowKit

theorem room4 (word : ByteArray) (t l : List UInt8) (x : Value) (h : word.size + t.length + 1 + l.length ≤ 140737488355328) :
    (Lib.byteCells (word.data.toList ++ t) ++ [x]).length + (ByteArray.mk l.toArray).size ≤ 140737488355328 := by
  have hw : word.data.toList.length = word.size := by simp
  rw [List.length_append, Lib.byteCells_length, List.length_append, ba_size, hw]
  simp only [List.length_cons, List.length_nil]
  omega
theorem cells_next (word : List UInt8) (zs : List Int) (z : Int) :
    Lib.byteCells (word ++ tail (zs ++ [z])) = (Lib.byteCells (word ++ tail zs) ++ [.int .u8 32]) ++ Lib.strCells ⟨(Lib.itoa z).toArray⟩ := by
  simp [tail_snoc, Lib.byteCells, Lib.strCells]

set_option maxHeartbeats 4000000 in
set_option maxRecDepth 1000000 in
theorem line_some (word : ByteArray) (a : Addr) (cap : Nat) (zs : List Int) (w : World) (hp : Pow10 w) (hab : a.block < w.heap.size) (hc : ∀ (i : Nat) z, zs[i]? = some z → w.cell? (a.add i) = some (.int .i64 z))
    (hz : ∀ z ∈ zs, -9223372036854775808 ≤ z ∧ z ≤ 9223372036854775807) (hlen : word.size + 22 * zs.length + 1 ≤ 140737488355328) :
    Calls Tryz.prog 84 #[.string word, .slice (some a) zs.length cap] w fun e w' => e = .returned (.string ⟨(lineB word.data.toList zs).toArray⟩) ∧ Below w.heap.size w w' := by
  go_enter Tryz.func84, Tryz.ntmps84
  go_wp2_with (go_at_call 41; refine (writeString_any w.heap.size w.heap.size [] word _ (Lib.IsBuilderF.of (Lib.fresh_isBuilder 99 5 w)) (by simp; omega) (by simp)).mono ?_)
  rintro e w1 ⟨rfl, h1, b1, _⟩
  have b1' : Below w.heap.size w w1 := ((Below.refl _ w).alloc (Nat.le_refl _) _).trans b1
  clear b1
  go_wp2
  go_loopw [12] (fun i wr => ∃ k : Nat, k ≤ zs.length ∧ i = .int .i64 k ∧ Lib.IsBuilderF 99 5 w.heap.size w.heap.size (Lib.byteCells (word.data.toList ++ tail (zs.take k))) wr ∧ Below w.heap.size w wr) (fun i _ => zs.length - (intOf i).toNat)
  case atStart => exact ⟨0, Nat.zero_le _, rfl, Or.inr (by simpa [tail, Lib.strCells_eq] using h1), b1'⟩
  case round =>
    obtain ⟨k, hk, rfl, hI, hb⟩ := hrel
    have hsz := hb.size
    have htl := tail_le (zs.take k) (fun z h => hz z (List.mem_of_mem_take h))
    have htk : (zs.take k).length ≤ k := List.length_take_le _ _
    have hwl : word.data.toList.length = word.size := by simp
    by_cases hlt : k < zs.length
    · have hcell : wr.cell? (a.add k) = some (.int .i64 (zs[k]'hlt)) := (hb.cell (p := a.add k) (by rw [add_block]; exact hab)).trans (hc k _ (List.getElem?_eq_getElem hlt))
      have hzk := hz (zs[k]'hlt) (List.getElem_mem hlt)
      have hil := Lib.itoa_length_le _ hzk.1 hzk.2
      have hsn : Hid (zs.take (k + 1) = zs.take k ++ [zs[k]'hlt]) := List.take_succ_eq_append_getElem hlt
      go_wp2_with (go_at_call 123; refine (writeByte_any w.heap.size w.heap.size _ 32 _ hI (by rw [Lib.byteCells_length, List.length_append]; omega) hsz).mono ?_)
      rintro e w2 ⟨rfl, h2, b2, _⟩
      have hb2 := hb.trans b2
      have hp2 : Pow10 w2 := hp.all hb2
      have hsz2 := hb2.size
      go_wp2_with (go_at_call 83; refine (itoa_any _ hzk.1 hzk.2 _ hp2).mono ?_)
      rintro e w3 ⟨rfl, b3⟩
      have h3 := bld_all h2 b3
      have hb3 := hb2.trans (b3.mono hsz2)
      have hsz3 := hb3.size
      have hl4 := room4 word (tail (zs.take k)) (Lib.itoa (zs[k]'hlt)) (.int .u8 32) (by omega)
      go_wp2_with (go_at_call 41; refine (writeString_any w.heap.size w.heap.size _ _ _ (Or.inr h3) hl4 hsz3).mono ?_)
      rintro e w4 ⟨rfl, h4, b4, _⟩
      have hb4 := hb3.trans b4
      go_wp2
      go_roundw
      case rel => exact ⟨k + 1, by omega, by go_num, by rw [hsn.out, cells_next]; exact Or.inr h4, hb4⟩
      case measure => simp [intOf]; omega
    · have hke : k = zs.length := by omega
      subst hke
      rw [List.take_length] at hI htl
      go_wp2_with (go_at_call 123; refine (writeByte_any w.heap.size w.heap.size _ 10 _ hI (by rw [Lib.byteCells_length, List.length_append]; omega) hsz).mono ?_)
      rintro e w2 ⟨rfl, h2, b2, _⟩
      have hb2 := hb.trans b2
      have hsz2 := hb2.size
      have h2' : Lib.IsBuilderF 99 5 w.heap.size w.heap.size (Lib.byteCells (lineB word.data.toList zs)) w2 := by
        unfold lineB
        rw [Lib.byteCells_append]
        exact Or.inr h2
      go_wp2_with (go_at_call 43; refine (Tryz.Builder_String_any_k w.heap.size w.heap.size _ _ h2' hsz2).mono ?_)
      rintro e w3 ⟨rfl, _, b3, _⟩
      go_wp2
      go_ret
      exact ⟨rfl, hb2.trans b3⟩

set_option maxHeartbeats 4000000 in
set_option maxRecDepth 1000000 in
theorem line_none (word : ByteArray) (w : World) (hlen : word.size + 1 ≤ 140737488355328) :
    Calls Tryz.prog 84 #[.string word, .slice none 0 0] w fun e w' => e = .returned (.string ⟨(lineB word.data.toList []).toArray⟩) ∧ Below w.heap.size w w' := by
  go_enter Tryz.func84, Tryz.ntmps84
  go_wp2_with (go_at_call 41; refine (writeString_any w.heap.size w.heap.size [] word _ (Lib.IsBuilderF.of (Lib.fresh_isBuilder 99 5 w)) (by simp; omega) (by simp)).mono ?_)
  rintro e w1 ⟨rfl, h1, b1, _⟩
  have hb : Below w.heap.size w w1 := ((Below.refl _ w).alloc (Nat.le_refl _) _).trans b1
  have hsz := hb.size
  clear b1
  go_wp2
  refine wp_loop_rounds 1 ?_
  rw [rounds_succ]
  go_wp2_with (go_at_call 123; refine (writeByte_any w.heap.size w.heap.size _ 10 _ (Or.inr h1) (by simp [Lib.strCells_length]; omega) hsz).mono ?_)
  rintro e w2 ⟨rfl, h2, b2, _⟩
  have hb2 := hb.trans b2
  have hsz2 := hb2.size
  have h2' : Lib.IsBuilderF 99 5 w.heap.size w.heap.size (Lib.byteCells (lineB word.data.toList [])) w2 := by
    unfold lineB
    rw [Lib.byteCells_append, Lib.byteCells_append]
    exact Or.inr (by simpa [tail, Lib.strCells_eq, Lib.byteCells] using h2)
  go_wp2_with (go_at_call 43; refine (Tryz.Builder_String_any_k w.heap.size w.heap.size _ _ h2' hsz2).mono ?_)
  rintro e w3 ⟨rfl, _, b3, _⟩
  go_wp2
  go_ret
  exact ⟨rfl, hb2.trans b3⟩

theorem line_any (word : ByteArray) (v : Value) (zs : List Int) (w : World) (hp : Pow10 w) (hv : Ints w v zs)
    (hz : ∀ z ∈ zs, -9223372036854775808 ≤ z ∧ z ≤ 9223372036854775807) (hlen : word.size + 22 * zs.length + 1 ≤ 140737488355328) :
    Calls Tryz.prog 84 #[.string word, v] w fun e w' => e = .returned (.string ⟨(lineB word.data.toList zs).toArray⟩) ∧ Below w.heap.size w w' := by
  rcases hv with ⟨rfl, rfl⟩ | ⟨a, cap, rfl, ha, hc⟩
  · exact line_none word w (by simpa using hlen)
  · exact line_some word a cap zs w hp ha hc hz hlen
end Go.Proofs.YtfconbblnmbnpahGreatDoor
namespace Go.Proofs.YtfconbblnmbnpahGreatDoor
open Go.RowKit

/-- The library's error for a wrong syntax lies in its variable. -/
def ErrS (w : World) : Prop := ∃ tp p, w.var? Tryz.prog "strconv.ErrSyntax" = some #[.iface tp p]
theorem gErr : Tryz.prog.globalNamed "strconv.ErrSyntax" = some 4 := by kernel_rfl
theorem ErrS.all {w w' : World} (h : ErrS w) (hb : Below w.heap.size w w') : ErrS w' := by
  obtain ⟨tp, p, h⟩ := h
  exact ⟨tp, p, Joins.var_stays gErr h hb (Nat.le_refl _)⟩
/-- All tables and variables that reading a text asks for. -/
structure Tabs2 (w : World) : Prop where
  tabs : Tabs w
  err : ErrS w
theorem Tabs2.all {w w' : World} (h : Tabs2 w) (hb : Below w.heap.size w w') : Tabs2 w' := ⟨h.tabs.all hb, h.err.all hb⟩
theorem Tabs2.alloc {w : World} (h : Tabs2 w) (o : Obj) : Tabs2 (w.alloc o) := h.all ((Below.refl _ _).alloc (Nat.le_refl _) _)

theorem atoi_range {l : List UInt8} {n : Int} (hl : l.length ≤ 18) (h : Lib.atoi l = some n) : -9223372036854775808 ≤ n ∧ n ≤ 9223372036854775807 :=
  Lib.atoiAll_bounds (l := l) (by rw [Lib.atoiAll_short l hl, h]; rfl)
theorem atoi_yes (s : ByteArray) (n : Int) (hl : s.size ≤ 18) (h : Lib.atoi s.data.toList = some n) (w : World) :
    Calls Tryz.prog 127 #[.string s] w fun e w' => e = .returned (.tuple #[.int .i64 n, .nilIface]) ∧ Below w.heap.size w w' := by
  refine (Tryz.strconv_Atoi s n hl h w).mono ?_
  rintro e w' ⟨rfl, t, rfl⟩
  exact ⟨rfl, Joins.below_bytesWorld _ _ _ _ (Nat.le_refl _)⟩
theorem atoi_no (s : ByteArray) (hl : s.size ≤ 18) (h : Lib.atoi s.data.toList = none) (w : World) (he : ErrS w) :
    Calls Tryz.prog 127 #[.string s] w fun e w' => ∃ t p, e = .returned (.tuple #[.int .i64 0, .iface t p]) ∧ Below w.heap.size w w' := by
  obtain ⟨tp, p, hv⟩ := he
  refine (Tryz.strconv_Atoi_err_var s hl h tp p w hv).mono ?_
  rintro e w' ⟨N, rfl, _, _, hb⟩
  exact ⟨_, _, rfl, hb⟩

end Go.Proofs.YtfconbblnmbnpahGreatDoor
namespace Go.Proofs.YtfconbblnmbnpahGreatDoor
open Go.ChangeShapes Go.WideShapes Go.ChangeAt Go.WideElems Go.RowKit

theorem tErr : (Tryz.prog.globals[4]?).map (·.type) = some 35 := by kernel_rfl
set_option maxRecDepth 100000 in
theorem errS_of_head {W : World} {nm : String} {d : DataW Unit} {rest : List (String × DataW Unit)} (h : laidMet Tryz.prog (("strconv.ErrSyntax", .iface nm d) :: rest) W) : ErrS W := by
  obtain ⟨ps, ⟨g', t', cs, fuel, p, q, hg', ht', hvar, hd, _, _⟩, _⟩ := h
  obtain rfl := Option.some.inj (gErr.symm.trans hg')
  obtain rfl := Option.some.inj (tErr.symm.trans ht')
  obtain ⟨l⟩ := cs
  cases fuel with
  | zero => simp [DataW.trod] at hd
  | succ fuel =>
    unfold DataW.trod at hd
    rw [Tryz.underlying35] at hd
    split at hd <;> simp_all
    exact ⟨_, _, hvar⟩
end Go.Proofs.YtfconbblnmbnpahGreatDoor
