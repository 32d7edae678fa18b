/-
  KerTime, EvEq, KerGT, V4L, HdBL, IntsL, KRefPk, KRefPoke, KerPoke, GPoke, KPlays0, KerGP, StBL, StsL, KOpen, WSame: joined into one text.
-/
import Derived.Test.YtfconbblnmbnpadGreatDoorJa1
import Derived.Laws.StructEq
import Derived.Test.YtfconbblnmbnpadGreatDoorJa12
import Derived.Deep.MidRow
import Derived.Test.YtfconbblnmbnpadGreatDoorJa5
import Derived.Deep.CutRange
import Derived.Deep.RegionWith
import Derived.BigQuiet
import Derived.RangeFuncNested
import Derived.Test.YtfconbblnmbnpadGreatDoorJa10
import Derived.Test.YtfconbblnmbnpadGreatDoorJa8
import Derived.Test.YtfconbblnmbnpadGreatDoorJa2
namespace Go.Proofs.YtfconbblnmbnpadGreatDoor
open Go.RowKit

/-- What time it is. -/
def KerTime {G : World → Prop} (C : KerC G) : Prop := ∀ {w0 W p vc vs vw k kb F}, C.K w0 W p vc vs vw k kb F → Calls Tryz.prog 16 #[.pointer (some ⟨kb, 0, none⟩)] W fun e w' => e = .returned (.int .i64 k.time) ∧ ∃ n, w' = W.drewN n
end Go.Proofs.YtfconbblnmbnpadGreatDoor
namespace Go.Proofs.YtfconbblnmbnpadGreatDoor
open Go.RowKit

theorem fieldsEv : Tryz.prog.underlying 42 = some (.struct (Tryz.prog.fieldsOf 42)) := by kernel_rfl
theorem stoodEv : Tryz.prog.stoodInHeld 42 = false := by kernel_rfl
theorem fieldsEvIs : Tryz.prog.fieldsOf 42 = #[{ name := "Tick", type := 3, offset := 0, embedded := false, tag := "", pkgPath := "", byteOffset := 0 }, { name := "Room", type := 3, offset := 1, embedded := false, tag := "", pkgPath := "", byteOffset := 8 }, { name := "At", type := 3, offset := 2, embedded := false, tag := "", pkgPath := "", byteOffset := 16 }, { name := "What", type := 3, offset := 3, embedded := false, tag := "", pkgPath := "", byteOffset := 24 }] := by kernel_rfl
theorem eqIn_ev (a b c d : Int) (w : World) : (Op.equalIn 10000 42 (.agg #[.int .i64 a, .int .i64 b, .int .i64 c, .int .i64 d]) (.agg #[.int .i64 a, .int .i64 b, .int .i64 c, .int .i64 d])).run Tryz.prog w = .ok true w := by
  rw [run_equalIn_agg _ _ _ _ _ fieldsEv stoodEv, fieldsEvIs]
  simp [go_sem, Tryz.underlying3]
theorem eql_ev (a b c d : Int) (w : World) : (binOp .eql 42 (.agg #[.int .i64 a, .int .i64 b, .int .i64 c, .int .i64 d]) (.agg #[.int .i64 a, .int .i64 b, .int .i64 c, .int .i64 d])).run Tryz.prog w = .ok (.bool true) w := by
  rw [run_eql_struct, eqIn_ev]
  rfl
theorem neq_ev (a b c d : Int) (w : World) : (binOp .neq 42 (.agg #[.int .i64 a, .int .i64 b, .int .i64 c, .int .i64 d]) (.agg #[.int .i64 a, .int .i64 b, .int .i64 c, .int .i64 d])).run Tryz.prog w = .ok (.bool false) w := by
  rw [run_neq_struct, eqIn_ev]
  rfl
theorem guardEv : Tryz.prog.eqGuardType Tryz.prog.depth 42 = false := by kernel_rfl
end Go.Proofs.YtfconbblnmbnpadGreatDoor
namespace Go.Proofs.YtfconbblnmbnpadGreatDoor
open Go.RowKit

set_option maxRecDepth 100000 in
set_option maxHeartbeats 1000000 in
theorem gtime_any (p : PD) (k : KD) (kb base : Nat) (a : GW) (w : World) (h : GK w base p k kb a) :
    Calls Tryz.prog 16 #[.pointer (some ⟨kb, 0, none⟩)] w fun e w' => e = .returned (.int .i64 k.time) ∧ ∃ n, w' = w.drewN n := by
  have c5 := h.c5
  clear h
  go_enter Tryz.func16, Tryz.ntmps16
  go_wp2
  go_ret
  exact ⟨rfl, 0, rfl⟩
theorem gker_time {G : World → Prop} (hG : ∀ w, G w → Forms w) (hall : ∀ w w', G w → Below w.heap.size w w' → G w') : KerTime (gker hG hall) := fun {_ W p _ _ _ k kb _} ⟨a, h, _, _⟩ => gtime_any p k kb _ a W h
end Go.Proofs.YtfconbblnmbnpadGreatDoor
namespace Go.Proofs.YtfconbblnmbnpadGreatDoor
open Go.RowKit

/-- Four numbers in a block. -/
def V4 (W : World) (b : Nat) (f : Nat → Int) : Prop := W.heap[b]? = some (.cells #[.int .i64 (f 0), .int .i64 (f 1), .int .i64 (f 2), .int .i64 (f 3)] 37 (0, 0))
theorem V4.cs {W : World} {b : Nat} {f : Nat → Int} (h : V4 W b f) : W.cell? ⟨b, 0, none⟩ = some (.int .i64 (f 0)) ∧ W.cell? ⟨b, 1, none⟩ = some (.int .i64 (f 1)) ∧ W.cell? ⟨b, 2, none⟩ = some (.int .i64 (f 2)) ∧ W.cell? ⟨b, 3, none⟩ = some (.int .i64 (f 3)) := by
  have e : W.heap[b]? = _ := h
  simp [World.cell?, e]
theorem V4.lt {W : World} {b : Nat} {f : Nat → Int} (h : V4 W b f) : b < W.heap.size := (Array.getElem?_eq_some_iff.1 h).1
theorem V4.fz {W : World} {b : Nat} {f : Nat → Int} (h : V4 W b f) (j : Nat) : W.frozen? ⟨b, j, none⟩ = false := by
  have e : W.heap[b]? = _ := h
  simp [World.frozen?, e]
theorem V4.at {W : World} {b : Nat} {f : Nat → Int} (h : V4 W b f) {j : Nat} (hj : j < 4) : W.cell? ⟨b, j, none⟩ = some (.int .i64 (f j)) := by
  obtain ⟨h0, h1, h2, h3⟩ := h.cs
  match j, hj with
  | 0, _ => exact h0
  | 1, _ => exact h1
  | 2, _ => exact h2
  | 3, _ => exact h3
theorem V4.set {W : World} {b : Nat} {f : Nat → Int} (h : V4 W b f) {j : Nat} (hj : j < 4) (x : Int) : V4 (W.setCell ⟨b, j, none⟩ (.int .i64 x)) b (fun q => if q = j then x else f q) := by
  have e : W.heap[b]? = _ := h
  unfold V4
  match j, hj with
  | 0, _ => simp [World.setCell, Array.getElem?_modify, e]
  | 1, _ => simp [World.setCell, Array.getElem?_modify, e]
  | 2, _ => simp [World.setCell, Array.getElem?_modify, e]
  | 3, _ => simp [World.setCell, Array.getElem?_modify, e]
theorem V4.eq {W : World} {b : Nat} {f g : Nat → Int} (h : V4 W b f) (he : ∀ q, q < 4 → f q = g q) : V4 W b g := by
  unfold V4 at *
  rw [← he 0 (by omega), ← he 1 (by omega), ← he 2 (by omega), ← he 3 (by omega)]
  exact h
end Go.Proofs.YtfconbblnmbnpadGreatDoor
namespace Go.Proofs.YtfconbblnmbnpadGreatDoor
open Go.RowKit

theorem lineK_len {p : PD} {k : KD} (hp : plchk p = 0) (hk : KOk p k) (i : Int) : (lineK k i).xs.length ≤ 1000000 := by
  unfold lineK
  split
  · exact Nat.zero_le _
  · rename_i h
    have hr : 0 ≤ i ∧ i < k.lines.length := by
      unfold noLine at h
      simp only [Bool.not_eq_true, Bool.or_eq_false_iff, decide_eq_false_iff_not] at h
      omega
    have hlt : i.toNat < k.lines.length := by omega
    have hl := List.getElem?_eq_getElem hlt
    have hx : p.wires[i.toNat]? = some (p.wires[i.toNat]'(by rw [← hk.ll]; exact hlt)) := List.getElem?_eq_getElem _
    simp only [List.getD, hl, Option.getD_some]
    have hlo := hk.lines _ _ _ hl hx
    rcases wchk_kind ((wschk_ok (plchk_zero hp).2.2.2.1).2 _ (List.mem_of_getElem? hx)) with ⟨h1, _⟩ | ⟨h1, h2, h3⟩
    · have := hlo.one h1
      omega
    · have := hlo.deep h1
      omega
/-- What is held, in its block. -/
def HdB (W : World) (b : Nat) (u : Value) (z : Int) : Prop := W.heap[b]? = some (.cells #[u, .int .i64 z] 54 (0, 0))
theorem HdB.cs {W : World} {b : Nat} {u : Value} {z : Int} (h : HdB W b u z) : W.cell? ⟨b, 0, none⟩ = some u ∧ W.cell? ⟨b, 1, none⟩ = some (.int .i64 z) := by
  have e : W.heap[b]? = _ := h
  simp [World.cell?, e]
theorem HdB.lt {W : World} {b : Nat} {u : Value} {z : Int} (h : HdB W b u z) : b < W.heap.size := (Array.getElem?_eq_some_iff.1 h).1
theorem HdB.there {W : World} {b : Nat} {u : Value} {z : Int} (h : HdB W b u z) (nq : Nat) : (W.drewN nq).there b 0 2 := by
  have hb : Below W.heap.size W (W.drewN nq) := below_dN (Below.refl _ _) nq
  have e : W.heap[b]? = _ := h
  intro j hj
  rw [hb.cell (p := ⟨b, 0 + j, none⟩) h.lt, hb.frozen (p := ⟨b, 0 + j, none⟩) h.lt]
  match j, hj with
  | 0, _ => simp [World.cell?, World.frozen?, e]
  | 1, _ => simp [World.cell?, World.frozen?, e]
theorem HdB.set {W : World} {b : Nat} {u : Value} {z : Int} (h : HdB W b u z) (u' : Value) (z' : Int) : HdB ((W.setCell ⟨b, 0, none⟩ u').setCell ⟨b, 1, none⟩ (.int .i64 z')) b u' z' := by
  have e : W.heap[b]? = _ := h
  unfold HdB
  simp [World.setCell, Array.getElem?_modify, e]
end Go.Proofs.YtfconbblnmbnpadGreatDoor
namespace Go.Proofs.YtfconbblnmbnpadGreatDoor
open Go.RowKit
set_option maxRecDepth 1000000 in
set_option maxHeartbeats 4000000 in
theorem wints_some (zs : List Int) (a ao b bo : Nat) (ac bc : Nat) (w : World) (ha : a < w.heap.size) (hb : b < w.heap.size) (hl : zs.length ≤ 1000000)
    (hca : ∀ (i : Nat) z, zs[i]? = some z → w.cell? ⟨a, ao + i, none⟩ = some (.int .i64 z)) (hcb : ∀ (i : Nat) z, zs[i]? = some z → w.cell? ⟨b, bo + i, none⟩ = some (.int .i64 z)) :
    Calls Tryz.prog 38 #[.slice (some ⟨a, ao, none⟩) zs.length ac, .slice (some ⟨b, bo, none⟩) zs.length bc] w fun e w' => e = .returned (.bool true) ∧ Below w.heap.size w w' := by
  go_enter Tryz.func38, Tryz.ntmps38
  go_wp2
  go_loopw [5] (fun i wr => ∃ k : Nat, k ≤ zs.length ∧ i = .int .i64 k ∧ Below w.heap.size w wr) (fun i _ => zs.length - (intOf i).toNat)
  case atStart => exact ⟨0, Nat.zero_le _, rfl, Below.refl _ _⟩
  case round =>
    obtain ⟨k, hk, rfl, hbw⟩ := hrel
    by_cases hkl : k < zs.length
    · obtain ⟨z, hz⟩ : ∃ z, zs[k]? = some z := ⟨zs[k], List.getElem?_eq_getElem hkl⟩
      have c0 := (hbw.cell (p := ⟨a, ao + k, none⟩) ha).trans (hca k z hz)
      have c1 := (hbw.cell (p := ⟨b, bo + k, none⟩) hb).trans (hcb k z hz)
      clear hz
      have hki : (k : Int) < (zs.length : Int) := by omega
      go_wp2
      go_quiet (fail)
      go_wp2
      go_roundw
      case rel => exact ⟨k + 1, by omega, by go_num, below_dN hbw _⟩
      case measure => simp [intOf]; omega
    · go_wp2
      go_ret
      exact ⟨rfl, hbw⟩
set_option maxRecDepth 1000000 in
set_option maxHeartbeats 4000000 in
theorem wints_nil (a b : Option Addr) (ac bc : Nat) (w : World) :
    Calls Tryz.prog 38 #[.slice a 0 ac, .slice b 0 bc] w fun e w' => e = .returned (.bool true) ∧ Below w.heap.size w w' := by
  go_enter Tryz.func38, Tryz.ntmps38
  go_wp2
  refine wp_loop_rounds 1 ?_
  rw [rounds_succ]
  go_wp2
  go_ret
  exact ⟨rfl, Below.refl _ _⟩
theorem wints_any (va vb : Value) (zs : List Int) (w : World) (ha : Rd w va zs) (hb : Rd w vb zs) (hl : zs.length ≤ 1000000) :
    Calls Tryz.prog 38 #[va, vb] w fun e w' => e = .returned (.bool true) ∧ Below w.heap.size w w' := by
  rcases ha with ⟨rfl, ao, ac, rfl⟩ | ⟨a, ao, ac, rfl, _, _, ha, hca⟩
  · rcases hb with ⟨_, bo, bc, rfl⟩ | ⟨b, bo, bc, rfl, _, _, hb, hcb⟩
    · exact wints_nil _ _ _ _ w
    · exact wints_nil _ _ _ _ w
  · rcases hb with ⟨rfl, bo, bc, rfl⟩ | ⟨b, bo, bc, rfl, _, _, hb, hcb⟩
    · exact wints_nil _ _ _ _ w
    · exact wints_some zs a ao b bo ac bc w ha hb hl hca hcb
end Go.Proofs.YtfconbblnmbnpadGreatDoor
namespace Go.Proofs.YtfconbblnmbnpadGreatDoor
open Go.RowKit

/-- A room is another one, the others as they were: what is written lies within its eight cells. -/
theorem RK.room_at {w w' : World} {base : Nat} {p : PD} {vc vs vw : Value} {k : KD} {a : KW} (h : RK w base p vc vs vw k a) {r : Nat} {s s' : St} (hr : k.rooms[r]? = some s) (ht : KTouch [a.rb] w w') (hat : StC w' a.rb (r * 8) s') (hoff : ∀ i, i < r * 8 ∨ r * 8 + 8 ≤ i → w'.cell? ⟨a.rb, i, none⟩ = w.cell? ⟨a.rb, i, none⟩) (hfz : ∀ i, w'.frozen? ⟨a.rb, i, none⟩ = w.frozen? ⟨a.rb, i, none⟩) : RK w' base p vc vs vw ⟨k.rooms.set r s', k.lines, k.time⟩ a := by
  have hlen := (List.getElem?_eq_some_iff.1 hr).1
  have hk : ∀ j, j < a.b1 → j ≠ a.rb → w'.heap[j]? = w.heap[j]? := fun j hj hn => ht.block j (Nat.lt_of_lt_of_le hj h.le) (by simpa using hn)
  have hc := fun o => World.cell?_of_block (w := w) (w' := w') (a := ⟨a.kb, o, none⟩) (hk _ h.lt.1 h.apart.1)
  have hf := fun o => World.frozen?_of_block (w := w) (w' := w') (a := ⟨a.kb, o, none⟩) (hk _ h.lt.1 h.apart.1)
  refine ⟨(hc 0).trans h.c0, (hc 1).trans h.c1, (hc 2).trans h.c2, (hc 3).trans h.c3, by simp only [List.length_set]; exact (hc 4).trans h.c4, (hc 5).trans h.c5, (hc 6).trans h.c6, (hf 6).trans h.f6, fun j s2 hs => ?_, fun o => (hfz o).trans (h.rf o), h.lv, fun j b' hj => ?_, h.bl, h.ul, fun j l b' u2 h1 h2 h3 => ?_, h.ge, h.lt, Nat.le_trans h.le ht.size, h.apart, h.two, h.ft.block (fun b hm => hk b (h.lt.2.2.2 b hm) (h.apart.2.2.2 b hm).2.1)⟩
  · simp only at hs
    by_cases hij : r = j
    · subst hij
      rw [List.getElem?_set_self hlen] at hs
      obtain rfl := Option.some.inj hs
      exact hat
    · rw [List.getElem?_set_ne hij] at hs
      exact (h.rooms j s2 hs).off (fun i h1 h2 => hoff i (by omega))
  · rcases h.apart.2.2.1 with h1 | h1
    · exact (World.cell?_of_block (w := w) (a := ⟨a.lr, j, none⟩) (hk _ h.lt.2.2.1 h1)).trans (h.ptr j b' hj)
    · have h2 := h.bl
      rw [h1, List.length_nil] at h2
      have := (List.getElem?_eq_some_iff.1 hj).1
      omega
  · have hm := h.apart.2.2.2 b' (List.mem_of_getElem? h2)
    exact (h.line j l b' u2 h1 h2 h3).other ht (by simpa using hm.2.1) (by simpa using h.lt.2.1)
theorem RK.poke {w : World} {base : Nat} {p : PD} {vc vs vw : Value} {k : KD} {a : KW} (h : RK w base p vc vs vw k a) {r c : Nat} {s : St} (hr : k.rooms[r]? = some s) (hc : c ≤ 5) (n : Int) : RK (w.setCell ⟨a.rb, r * 8 + 1 + c, none⟩ (.int .i64 n)) base p vc vs vw ⟨k.rooms.set r (pokeS s c n), k.lines, k.time⟩ a :=
  h.room_at hr (KTouch.set w (by simp) _ _) ((h.rooms r s hr).poke hc n) (fun i hi => setCell_far (by omega)) (fun i => by simp)
end Go.Proofs.YtfconbblnmbnpadGreatDoor
namespace Go.Proofs.YtfconbblnmbnpadGreatDoor
open Go.RowKit

set_option maxRecDepth 100000 in
set_option maxHeartbeats 4000000 in
theorem refpoke_any (p : PD) (vc vs vw : Value) (k : KD) (a : KW) (base : Nat) (r c n : Int) (w : World) (h : RK w base p vc vs vw k a) :
    Calls Tryz.prog 9 #[.pointer (some ⟨a.kb, 0, none⟩), .int .i64 r, .int .i64 c, .int .i64 n] w fun e w' => e = .returned (.int .i64 (pokeN k r c n)) ∧ RK w' base p vc vs vw (pokeK k r c n) a ∧ KTouch a.m w w' := by
  have k4 := h.c4
  have H : Hid (RK w base p vc vs vw k a) := h
  clear h
  go_enter Tryz.func9, Tryz.ntmps9
  go_upto_region 1 with fail
  go_cut [35] from 9 to 34 (fun s35 wx => s35 = .bool (pokeB k r c n) ∧ wx = w)
  case first =>
    by_cases h0 : r < 0
    · have HX : Hid (pokeB k r c n = true) := by show _ = _; unfold pokeB; simp [h0]
      go_wp2_with fail
      go_meet
      case rel => exact ⟨by rw [HX.out], rfl⟩
    have h0' : decide (r < 0) = false := decide_eq_false h0
    by_cases h1 : (k.rooms.length : Int) ≤ r
    · have HX : Hid (pokeB k r c n = true) := by show _ = _; unfold pokeB; simp [h1]
      go_wp2_with fail
      go_meet
      case rel => exact ⟨by rw [HX.out], rfl⟩
    have h1' : decide ((k.rooms.length : Int) ≤ r) = false := decide_eq_false h1
    by_cases h2 : c < 0
    · have HX : Hid (pokeB k r c n = true) := by show _ = _; unfold pokeB; simp [h2]
      go_wp2_with fail
      go_meet
      case rel => exact ⟨by rw [HX.out], rfl⟩
    have h2' : decide (c < 0) = false := decide_eq_false h2
    by_cases h3 : 5 < c
    · have HX : Hid (pokeB k r c n = true) := by show _ = _; unfold pokeB; simp [h3]
      go_wp2_with fail
      go_meet
      case rel => exact ⟨by rw [HX.out], rfl⟩
    have h3' : decide (5 < c) = false := decide_eq_false h3
    by_cases h4 : n < 0
    · have HX : Hid (pokeB k r c n = true) := by show _ = _; unfold pokeB; simp [h4]
      go_wp2_with fail
      go_meet
      case rel => exact ⟨by rw [HX.out], rfl⟩
    have h4' : decide (n < 0) = false := decide_eq_false h4
    have HX : Hid (pokeB k r c n = decide (999 < n)) := by show _ = _; unfold pokeB; simp [h0', h1', h2', h3', h4']
    go_wp2_with fail
    go_meet
    case rel => exact ⟨by rw [HX.out], rfl⟩
  case rest =>
  obtain ⟨rfl, hwc⟩ := hcut
  rw [hwc]
  clear hwc
  cases hb : pokeB k r c n with
  | true =>
    go_wp2
    go_ret
    exact ⟨by unfold pokeN; rw [hb]; rfl, by unfold pokeK; rw [hb, if_pos rfl]; exact H.out, KTouch.refl _ _⟩
  | false =>
    obtain ⟨h0, h1, h2, h3, h4, h5⟩ := pokeB_false hb
    obtain ⟨rn, rfl⟩ : ∃ m : Nat, r = m := ⟨r.toNat, by omega⟩
    obtain ⟨cn, rfl⟩ : ∃ m : Nat, c = m := ⟨c.toNat, by omega⟩
    have hrl : rn < k.rooms.length := by omega
    have hcl : cn ≤ 5 := by omega
    have hc6 : (cn : Int) < 6 := by omega
    have hs : k.rooms[rn]? = some k.rooms[rn] := List.getElem?_eq_getElem hrl
    have hst := H.out.rooms rn _ hs
    have hcell : ∃ v, w.cell? ⟨a.rb, rn * 8 + 1 + cn, none⟩ = some v := by
      obtain ⟨q0, q1, q2, q3, q4, q5, q6, q7⟩ := hst
      match cn, hcl with
      | 0, _ => exact ⟨_, q1⟩
      | 1, _ => exact ⟨_, q2⟩
      | 2, _ => exact ⟨_, q3⟩
      | 3, _ => exact ⟨_, q4⟩
      | 4, _ => exact ⟨_, q5⟩
      | 5, _ => exact ⟨_, q6⟩
    obtain ⟨v0, hv0⟩ := hcell
    have hfz := H.out.rf (rn * 8 + 1 + cn)
    have HK : Hid (pokeK k rn cn n = ⟨k.rooms.set rn (pokeS k.rooms[rn] cn n), k.lines, k.time⟩) := by
      show _ = _
      unfold pokeK
      rw [hb, if_neg (by decide)]
      simp [List.getD, hs]
    clear hst hs
    have HB : Hid (pokeB k rn cn n = false) := hb
    clear hb
    go_wp2
    go_ret
    refine ⟨by unfold pokeN; rw [HB.out]; rfl, ?_, KTouch.set w (by simp [KW.m]) _ _⟩
    rw [HK.out]
    exact H.out.poke (List.getElem?_eq_getElem hrl) hcl n
end Go.Proofs.YtfconbblnmbnpadGreatDoor
namespace Go.Proofs.YtfconbblnmbnpadGreatDoor
open Go.RowKit

def KerPoke {G : World → Prop} (C : KerC G) : Prop := ∀ {w0 W p vc vs vw k kb F} (r c n : Int), C.K w0 W p vc vs vw k kb F → KOk p k → plchk p = 0 → Calls Tryz.prog 10 #[.pointer (some ⟨kb, 0, none⟩), .int .i64 r, .int .i64 c, .int .i64 n] W fun e w' => e = .returned (wErr (pokeN k r c n)) ∧ ∃ F', C.K w0 w' p vc vs vw (pokeK k r c n) kb F' ∧ KTouch F W w' ∧ ∀ g ∈ F', g ∈ F ∨ W.heap.size ≤ g
end Go.Proofs.YtfconbblnmbnpadGreatDoor
namespace Go.Proofs.YtfconbblnmbnpadGreatDoor
open Go.RowKit

set_option maxRecDepth 100000 in
set_option maxHeartbeats 4000000 in
theorem gpoke_any (p : PD) (k : KD) (kb base : Nat) (a : GW) (r c n : Int) (w : World) (h : GK w base p k kb a) :
    Calls Tryz.prog 10 #[.pointer (some ⟨kb, 0, none⟩), .int .i64 r, .int .i64 c, .int .i64 n] w fun e w' => e = .returned (wErr (pokeN k r c n)) ∧ GK w' base p (pokeK k r c n) kb a ∧ KTouch (a.F kb) w w' := by
  have c3 := h.c3
  have H : Hid (GK w base p k kb a) := h
  clear h
  go_enter Tryz.func10, Tryz.ntmps10
  go_upto_region 1 with fail
  go_cut [26] from 9 to 25 (fun s26 wx => s26 = .bool (pokeB k r c n) ∧ wx = w)
  case first =>
    by_cases h0 : 0 ≤ r ∧ r < (k.rooms.length : Int)
    · by_cases h1 : 0 ≤ c ∧ c < 6
      · have HX : Hid (pokeB k r c n = !(decide (0 ≤ n) && decide (n < 1000))) := by
          show _ = _
          unfold pokeB
          have e1 : decide (r < 0) = false := decide_eq_false (by omega)
          have e2 : decide ((k.rooms.length : Int) ≤ r) = false := decide_eq_false (by omega)
          have e3 : decide (c < 0) = false := decide_eq_false (by omega)
          have e4 : decide (5 < c) = false := decide_eq_false (by omega)
          simp only [e1, e2, e3, e4, Bool.false_or]
          by_cases e5 : n < 0
          · simp [e5] <;> omega
          · by_cases e6 : 999 < n
            · simp [e6] <;> omega
            · simp [e5, e6] <;> omega
        have b0 : (decide (0 ≤ r) && decide (r < (k.rooms.length : Int))) = true := by simp [h0.1, h0.2]
        have b1 : (decide (0 ≤ c) && decide (c < 6)) = true := by simp [h1.1, h1.2]
        go_wp2_with (go_at_call 33; refine (kbelow_any _ _ _).mono ?_; rintro e w1 ⟨rfl, hw1⟩; subst hw1; first | rw [b0] | rw [b1] | skip)
        go_meet
        case rel => exact ⟨by rw [HX.out, Bool.not_and], rfl⟩
      · have HX : Hid (pokeB k r c n = true) := by
          show _ = _
          unfold pokeB
          by_cases e3 : c < 0
          · simp [e3]
          · have e4 : 5 < c := by omega
            simp [e4]
        have b0 : (decide (0 ≤ r) && decide (r < (k.rooms.length : Int))) = true := by simp [h0.1, h0.2]
        have b1 : (decide (0 ≤ c) && decide (c < 6)) = false := by
          rw [← Bool.decide_and]
          exact decide_eq_false h1
        go_wp2_with (go_at_call 33; refine (kbelow_any _ _ _).mono ?_; rintro e w1 ⟨rfl, hw1⟩; subst hw1; first | rw [b0] | rw [b1] | skip)
        go_meet
        case rel => exact ⟨by rw [HX.out], rfl⟩
    · have HX : Hid (pokeB k r c n = true) := by
        show _ = _
        unfold pokeB
        by_cases e1 : r < 0
        · simp [e1]
        · have e2 : (k.rooms.length : Int) ≤ r := by omega
          simp [e2]
      go_wp2_with (go_at_call 33; refine (kbelow_no _ _ _ h0).mono ?_; rintro e w1 ⟨rfl, hw1⟩; subst hw1)
      go_meet
      case rel => exact ⟨by rw [HX.out], rfl⟩
  case rest =>
  obtain ⟨rfl, hwc⟩ := hcut
  rw [hwc]
  clear hwc
  cases hb : pokeB k r c n with
  | true =>
    go_wp2
    go_ret
    exact ⟨by unfold pokeN; rw [hb]; rfl, by unfold pokeK; rw [hb, if_pos rfl]; exact H.out, KTouch.refl _ _⟩
  | false =>
    obtain ⟨h0, h1, h2, h3, h4, h5⟩ := pokeB_false hb
    obtain ⟨rn, rfl⟩ : ∃ m : Nat, r = m := ⟨r.toNat, by omega⟩
    obtain ⟨cn, rfl⟩ : ∃ m : Nat, c = m := ⟨c.toNat, by omega⟩
    have hrl : rn < k.rooms.length := by omega
    have hcl : cn ≤ 5 := by omega
    have hc6 : (cn : Int) < 6 := by omega
    have hs : k.rooms[rn]? = some k.rooms[rn] := List.getElem?_eq_getElem hrl
    have hst := H.out.rooms rn _ hs
    have hcell : ∃ v, w.cell? ⟨a.rb, rn * 8 + 1 + cn, none⟩ = some v := by
      obtain ⟨q0, q1, q2, q3, q4, q5, q6, q7⟩ := hst
      match cn, hcl with
      | 0, _ => exact ⟨_, q1⟩
      | 1, _ => exact ⟨_, q2⟩
      | 2, _ => exact ⟨_, q3⟩
      | 3, _ => exact ⟨_, q4⟩
      | 4, _ => exact ⟨_, q5⟩
      | 5, _ => exact ⟨_, q6⟩
    obtain ⟨v0, hv0⟩ := hcell
    have hfz := H.out.rf (rn * 8 + 1 + cn)
    have HK : Hid (pokeK k rn cn n = ⟨k.rooms.set rn (pokeS k.rooms[rn] cn n), k.lines, k.time⟩) := by
      show _ = _
      unfold pokeK
      rw [hb, if_neg (by decide)]
      simp [List.getD, hs]
    clear hst hs
    have HB : Hid (pokeB k rn cn n = false) := hb
    clear hb
    go_wp2
    go_ret
    refine ⟨by unfold pokeN; rw [HB.out]; rfl, ?_, KTouch.set w (by simp [GW.F]) _ _⟩
    rw [HK.out]
    exact H.out.poke (List.getElem?_eq_getElem hrl) hcl n
end Go.Proofs.YtfconbblnmbnpadGreatDoor
namespace Go.Proofs.YtfconbblnmbnpadGreatDoor
open Go.RowKit

/-- A poke of both, the document's first. -/
theorem two_poke {G : World → Prop} {C : KerC G} (CP : KerPoke C) {w0 W : World} {p : PD} {vc vs vw : Value} {k : KD} {kb : Nat} {F : List Nat} {a : KW} (hp : plchk p = 0) (r c n : Int) (h : Two C w0 W p vc vs vw k kb F a) :
    Calls Tryz.prog 9 #[.pointer (some ⟨a.kb, 0, none⟩), .int .i64 r, .int .i64 c, .int .i64 n] W fun e w2 => e = .returned (.int .i64 (pokeN k r c n)) ∧ KTouch (F ++ a.m) W w2 ∧
      Calls Tryz.prog 10 #[.pointer (some ⟨kb, 0, none⟩), .int .i64 r, .int .i64 c, .int .i64 n] w2 fun e w' => e = .returned (wErr (pokeN k r c n)) ∧ ∃ F', Went C w0 W w' p vc vs vw (pokeK k r c n) kb F F' a a := by
  refine (refpoke_any p vc vs vw k a w0.heap.size r c n W h.R).mono ?_
  rintro e w2 ⟨rfl, hR2, tkr⟩
  have hmge := h.R.mge
  have tkr' : KTouch (F ++ a.m) W w2 := tkr.mono (fun m hm => List.mem_append.2 (Or.inr hm))
  have hK2 := C.frame h.K tkr (fun m hm => ⟨fun hmf => h.ap m hmf (KF.m m hm), hmge m hm⟩)
  refine ⟨rfl, tkr', ?_⟩
  refine (CP r c n hK2 h.ok hp).mono ?_
  rintro e w' ⟨rfl, F', hK', tk, hF'⟩
  have hs := tkr.size
  have hFlt : ∀ g ∈ F', g ∉ KF a := fun g hg hm => by
    rcases hF' g hg with h1 | h1
    · exact h.ap g h1 hm
    · have := h.R.flt g hm
      omega
  refine ⟨rfl, F', ⟨hK', hR2.frame tk (fun m hm => h.ap m hm), hFlt, poke_ok h.ok r c n, h.pln⟩, tkr'.trans (tk.mono (fun m hm => List.mem_append.2 (Or.inl hm))), fun g hg => ?_, rfl⟩
  rcases List.mem_append.1 hg with h1 | h1
  · rcases hF' g h1 with h2 | h2
    · exact Or.inl (List.mem_append.2 (Or.inl h2))
    · exact Or.inr (by omega)
  · exact Or.inl (List.mem_append.2 (Or.inr h1))
end Go.Proofs.YtfconbblnmbnpadGreatDoor
namespace Go.Proofs.YtfconbblnmbnpadGreatDoor
open Go.RowKit

theorem gker_poke {G : World → Prop} (hG : ∀ w, G w → Forms w) (hall : ∀ w w', G w → Below w.heap.size w w' → G w') : KerPoke (gker hG hall) := fun {w0 W p _ _ _ k kb F} r c n ⟨a, h, hF, hb⟩ _ _ => by
  subst hF
  refine (gpoke_any p k kb _ a r c n W h).mono ?_
  rintro e w' ⟨rfl, h1, h2⟩
  exact ⟨rfl, _, ⟨a, h1, rfl, hb.trans (h2.below h.ge hb.size)⟩, h2, fun g hg => Or.inl hg⟩
end Go.Proofs.YtfconbblnmbnpadGreatDoor
namespace Go.Proofs.YtfconbblnmbnpadGreatDoor
open Go.RowKit

theorem StB.set {W : World} {b : Nat} {s : St} (h : StB W b s) (s' : St) : StB (setSt W b 0 s') b s' := by
  have e : W.heap[b]? = _ := h
  unfold StB setSt
  simp [World.setCell, Array.getElem?_modify, e]
theorem StB.there {W : World} {b : Nat} {s : St} (h : StB W b s) (nq : Nat) : (W.drewN nq).there b 0 8 := there_st h.cs (fun i => by have e : W.heap[b]? = _ := h; simp [World.frozen?, e]) nq
end Go.Proofs.YtfconbblnmbnpadGreatDoor
namespace Go.Proofs.YtfconbblnmbnpadGreatDoor
open Go.RowKit

/-- Rows of numbers that came in. -/
def Sts (w : World) (v : Value) (ll : List (List Int)) : Prop := (ll = [] ∧ ∃ ao cap, v = .slice ao 0 cap) ∨ ∃ b off cap, v = .slice (some ⟨b, off, none⟩) ll.length cap ∧ b < w.heap.size ∧ ∀ (i : Nat) l, ll[i]? = some l → ∃ u, w.cell? ⟨b, off + i, none⟩ = some u ∧ Stp w u l
theorem Sts.form {w : World} {v : Value} {ll : List (List Int)} (h : Sts w v ll) : ∃ ao cap, v = .slice ao ll.length cap := by
  rcases h with ⟨rfl, ao, cap, rfl⟩ | ⟨b, off, cap, rfl, _⟩
  · exact ⟨ao, cap, rfl⟩
  · exact ⟨_, cap, rfl⟩
theorem Sts.at {w : World} {ao : Option Addr} {cap : Nat} {ll : List (List Int)} (h : Sts w (.slice ao ll.length cap) ll) {i : Nat} (hi : i < ll.length) : ∃ b off ua uc l, ao = some ⟨b, off, none⟩ ∧ b < w.heap.size ∧ ll[i]? = some l ∧ w.cell? ⟨b, off + i, none⟩ = some (.slice ua l.length uc) ∧ Stp w (.slice ua l.length uc) l := by
  rcases h with ⟨rfl, _⟩ | ⟨b, off, cap', e, hlt, hc⟩
  · simp at hi
  · injection e with e1
    obtain ⟨u, h1, h2⟩ := hc i _ (List.getElem?_eq_getElem hi)
    obtain ⟨ua, uc, rfl⟩ := h2.form
    exact ⟨b, off, ua, uc, _, e1, hlt, List.getElem?_eq_getElem hi, h1, h2⟩
end Go.Proofs.YtfconbblnmbnpadGreatDoor
namespace Go.Proofs.YtfconbblnmbnpadGreatDoor
open Go.ChangeShapes Go.WideShapes Go.ChangeAt Go.WideElems Go.RowKit Go.Deep

theorem pcInts : Tryz.prog.cellsOf 38 = 1 := by kernel_rfl
section
variable {H : Type} {enc : TypeId × Value → H} {W : World} {base : Nat} {sp : Nat → Bool} {held : Bool}
theorem pk_int (n : Nat) (cs : List Value) (x : DataW H × List MemPlace) (h : DataW.trod enc Tryz.prog W base sp held n 3 cs = some x) : ∃ o : Int, cs = [.int .i64 o] := by
  obtain ⟨n, e0, _, _⟩ := DataW.trod_int Tryz.underlying3 h
  exact ⟨n, e0⟩
set_option maxRecDepth 100000 in
theorem pk_stp (n : Nat) (cs : List Value) (x : DataW H × List MemPlace) (h : DataW.trod enc Tryz.prog W base sp held n 38 cs = some x) : ∃ l : List Int, ∃ u, cs = [u] ∧ Stp W u l := by
  obtain ⟨a, len, cap, rfl, hr⟩ := pk_slice (α := Int) Tryz.underlying38 pcInt (by decide) (fun cs o => cs = [.int .i64 o]) pk_int h
  rcases hr with rfl | ⟨b, off, rfl, _, hlt, l, rfl, hl⟩
  · exact ⟨[], _, rfl, Or.inl ⟨rfl, _, _, rfl⟩⟩
  · refine ⟨l, _, rfl, Or.inr ⟨b, off, cap, rfl, hlt, fun i o ho => ?_⟩⟩
    obtain ⟨us, _, rfl, hc⟩ := hl i o ho
    have := hc 0 (by omega)
    simpa using this
set_option maxRecDepth 100000 in
theorem pk_sts (n : Nat) (cs : List Value) (x : DataW H × List MemPlace) (h : DataW.trod enc Tryz.prog W base sp held n 27 cs = some x) : ∃ l : List (List Int), ∃ u, cs = [u] ∧ Sts W u l := by
  obtain ⟨a, len, cap, rfl, hr⟩ := pk_slice (α := List Int) Tryz.underlying27 pcInts (by decide) (fun cs l => ∃ u, cs = [u] ∧ Stp W u l) pk_stp h
  rcases hr with rfl | ⟨b, off, rfl, _, hlt, l, rfl, hl⟩
  · exact ⟨[], _, rfl, Or.inl ⟨rfl, _, _, rfl⟩⟩
  · refine ⟨l, _, rfl, Or.inr ⟨b, off, cap, rfl, hlt, fun i c hc => ?_⟩⟩
    obtain ⟨us, _, ⟨u, rfl, hu⟩, hc⟩ := hl i c hc
    have := hc 0 (by omega)
    exact ⟨u, by simpa using this, hu⟩
set_option maxRecDepth 100000 in
/-- Rows of numbers that came in. -/
theorem open_sts {b0 : Nat} {r : Reach} {v : Value} {d : DataW H} {p : List MemPlace} (hv : Value.okWide Tryz.prog W r b0 27 v)
    (h : DataW.Trod enc Tryz.prog W base sp held 27 v d p) : ∃ ll : List (List Int), Sts W v ll := by
  obtain ⟨a0, len0, cap0, rfl⟩ := okWide_slice Tryz.underlying27 hv
  obtain ⟨fuel, hf⟩ := h
  obtain ⟨l, u, hu, hs⟩ := pk_sts _ _ _ hf
  simp [Value.cells] at hu
  subst hu
  exact ⟨l, hs⟩
end
end Go.Proofs.YtfconbblnmbnpadGreatDoor
namespace Go.Proofs.YtfconbblnmbnpadGreatDoor
open Go.RowKit

set_option maxRecDepth 1000000 in
set_option maxHeartbeats 4000000 in
theorem wheld_any (va vb : Value) (zs : List Int) (ls : Int) (w : World) (ha : Rd w va zs) (hb : Rd w vb zs) (hl : zs.length ≤ 1000000) :
    Calls Tryz.prog 15 #[.agg #[va, .int .i64 ls], .agg #[vb, .int .i64 ls]] w fun e w' => e = .returned (.bool true) ∧ Below w.heap.size w w' := by
  obtain ⟨aa, ac, rfl⟩ := ha.form
  obtain ⟨ba, bc, rfl⟩ := hb.form
  have hA : Below w.heap.size w ((w.alloc (.cells #[.slice aa zs.length ac, .int .i64 ls] 54)).alloc (.cells #[.slice ba zs.length bc, .int .i64 ls] 54)) := ((Below.refl _ _).alloc (Nat.le_refl _) _).alloc (by simp) _
  have h := wints_any _ _ zs _ (ha.all hA) (hb.all hA) hl
  clear ha hb
  go_enter Tryz.func15, Tryz.ntmps15
  go_wp2_with (go_at_call 38; refine h.mono ?_; rintro e w1 ⟨rfl, b1⟩; clear h)
  go_ret
  exact ⟨rfl, hA.trans (b1.mono hA.size)⟩
end Go.Proofs.YtfconbblnmbnpadGreatDoor
