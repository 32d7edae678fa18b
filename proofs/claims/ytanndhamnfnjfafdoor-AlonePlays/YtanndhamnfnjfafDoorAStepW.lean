/-
  Package alone: Step.
-/
import Derived.Test.YtanndhamnfnjfafDoorJb3
import Derived.Test.YtanndhamnfnjfafDoorJb2
import Derived.Test.YtanndhamnfnjfafDoorRoomStep4
import Derived.Deep.RegionHeld3
import Derived.Deep.CutRange
import Derived.Deep.RegionWith
import Derived.RangeFuncRecord
namespace Go.Proofs.YtanndhamnfnjfafDoor
open Go.RowKit

set_option maxRecDepth 100000 in
set_option maxHeartbeats 16000000 in
theorem alstep_no (a : AD) (ab base : Nat) (cv : Value) (F0 : List Nat) (got : Int) (is : Bool) (w : World) (hfm : Forms w) (h : GA w base a ab cv F0) (hx : AOk a) (hg : gotNo got is) :
    Calls Tryd.prog 8 #[.pointer (some ⟨ab, 0, none⟩), .int .i64 got, .bool is] w fun e w' => e = .returned (.tuple #[evA (0, 0, 0, 0), .int .i64 0, wErr 1]) ∧ Below w.heap.size w w' := by
  have H : Hid (GA w base a ab cv F0) := h
  have hlt := h.abl
  have hblk := h.blk
  have hop := hx.op
  obtain ⟨pn, hpn⟩ : ∃ n : Nat, a.s.p = n := ⟨a.s.p.toNat, by have := (stOk_iff.1 hx.st).1; omega⟩
  have hpl : pn < a.c.length := by have := (stOk_iff.1 hx.st).2.1; omega
  obtain ⟨ob, oo, ck, rfl, holt, hoce⟩ : ∃ b off cap, cv = .slice (some ⟨b, off, none⟩) a.c.length cap ∧ b < w.heap.size ∧ ∀ (i : Nat) o, a.c[i]? = some o → w.cell? ⟨b, off + i * 3, none⟩ = some (.int .i64 o.1) ∧ w.cell? ⟨b, off + i * 3 + 1, none⟩ = some (.int .i64 o.2.1) ∧ w.cell? ⟨b, off + i * 3 + 2, none⟩ = some (.int .i64 o.2.2) := by
    rcases h.ops with ⟨h0, _⟩ | h1
    · rw [h0] at hpl
      simp at hpl
    · exact h1
  obtain ⟨o, hoe⟩ : ∃ o, a.op = o := ⟨_, rfl⟩
  have hoc : a.c[pn]? = some o := by
    have := hop.2
    rw [hpn, hoe] at this
    simpa using this
  obtain ⟨o0, o1, o2⟩ := hoce pn o hoc
  have HS : Hid (∀ W, Below w.heap.size w W → Calls Tryd.prog 20 #[.slice (some ⟨ob, oo, none⟩) a.c.length ck, .agg #[.int .i64 pn, .int .i64 (a.s.c 0), .int .i64 (a.s.c 1), .int .i64 (a.s.c 2), .int .i64 (a.s.c 3), .int .i64 (a.s.c 4), .int .i64 (a.s.c 5), .bool a.s.f], .int .i64 got, .bool is] W fun e w' => e = .returned (.tuple #[.agg #[.int .i64 0, .int .i64 0, .int .i64 0, .int .i64 0, .int .i64 0, .int .i64 0, .int .i64 0, .bool false], .int .i64 0, .iface 63 (.int .i64 1)]) ∧ Below W.heap.size W w') := fun W hb => by
    have h1 := rstep_any a.c (.slice (some ⟨ob, oo, none⟩) a.c.length ck) a.s got is W (hfm.all hb) (h.ops.all hb)
    have h2 : gchk a.c a.s got is = 1 := by
      unfold gchk rchk
      rw [if_pos hx.ck, if_pos hx.st, if_pos rfl, if_pos (show is = true ∧ (got < 0 ∨ 999 < got) from hg)]
    unfold stepT at h1
    rw [if_neg (by omega), h2] at h1
    rw [← hpn]
    exact h1
  have HPN : Hid (a.s.p = (pn : Int)) := hpn
  have HOE : Hid (a.op = o) := hoe
  obtain ⟨c0, c1, c2, c3, c4, c5, c6, c7, c8, c9, c10⟩ := gaO_cs hblk
  rw [hpn] at c2
  have hpi : (pn : Int) < (a.c.length : Int) := by omega
  have hpd : decide ((a.c.length : Int) ≤ (pn : Int)) = false := decide_eq_false (by omega)
  clear h hoce hoc hoe hop hpn hx
  have hA : Below w.heap.size w (w.alloc (.cells #[.int .i64 0, .int .i64 0, .int .i64 0, .int .i64 0] 45)) := (Below.refl _ _).alloc (Nat.le_refl _) _
  have hE1 : (w.alloc (.cells #[.int .i64 0, .int .i64 0, .int .i64 0, .int .i64 0] 45)).heap[w.heap.size]? = some (.cells #[.int .i64 0, .int .i64 0, .int .i64 0, .int .i64 0] 45 (0, 0)) := World.alloc_heap_new _ _
  have hs1 : (w.alloc (.cells #[.int .i64 0, .int .i64 0, .int .i64 0, .int .i64 0] 45)).heap.size = w.heap.size + 1 := by simp
  go_enter Tryd.func8, Tryd.ntmps8
  go_upto_region 1 with fail
  have d := fun o => hA.cell (p := ⟨ab, o, none⟩) hlt
  have d2 := (d 2).trans c2
  have d3 := (d 3).trans c3
  have d4 := (d 4).trans c4
  have d5 := (d 5).trans c5
  have d6 := (d 6).trans c6
  have d7 := (d 7).trans c7
  have d8 := (d 8).trans c8
  have d9 := (d 9).trans c9
  clear d
  generalize w.alloc (.cells #[.int .i64 0, .int .i64 0, .int .i64 0, .int .i64 0] 45) = w1 at hA hE1 hs1 d2 d3 d4 d5 d6 d7 d8 d9 ⊢
  go_upto_region 2 with fail
  clear d2 d3 d4 d5 d6 d7 d8 d9
  have hB2 : Below w1.heap.size w1 (w1.alloc (.cells #[.int .i64 pn, .int .i64 (a.s.c 0), .int .i64 (a.s.c 1), .int .i64 (a.s.c 2), .int .i64 (a.s.c 3), .int .i64 (a.s.c 4), .int .i64 (a.s.c 5), .bool a.s.f] 39)) := (Below.refl _ _).alloc (Nat.le_refl _) _
  have hS2 : (w1.alloc (.cells #[.int .i64 pn, .int .i64 (a.s.c 0), .int .i64 (a.s.c 1), .int .i64 (a.s.c 2), .int .i64 (a.s.c 3), .int .i64 (a.s.c 4), .int .i64 (a.s.c 5), .bool a.s.f] 39)).heap[w1.heap.size]? = some (.cells #[.int .i64 pn, .int .i64 (a.s.c 0), .int .i64 (a.s.c 1), .int .i64 (a.s.c 2), .int .i64 (a.s.c 3), .int .i64 (a.s.c 4), .int .i64 (a.s.c 5), .bool a.s.f] 39 (0, 0)) := World.alloc_heap_new _ _
  have hs2 : (w1.alloc (.cells #[.int .i64 pn, .int .i64 (a.s.c 0), .int .i64 (a.s.c 1), .int .i64 (a.s.c 2), .int .i64 (a.s.c 3), .int .i64 (a.s.c 4), .int .i64 (a.s.c 5), .bool a.s.f] 39)).heap.size = w1.heap.size + 1 := by simp
  generalize w1.alloc (.cells #[.int .i64 pn, .int .i64 (a.s.c 0), .int .i64 (a.s.c 1), .int .i64 (a.s.c 2), .int .i64 (a.s.c 3), .int .i64 (a.s.c 4), .int .i64 (a.s.c 5), .bool a.s.f] 39) = w2 at hB2 hS2 hs2 ⊢
  have hb2 : Below w.heap.size w w2 := hA.trans (hB2.mono hA.size)
  have hE2 := (hB2.block w.heap.size (by omega)).trans hE1
  rw [hs1] at hS2
  obtain ⟨b1, hb1⟩ : ∃ b, w.heap.size + 1 = b := ⟨_, rfl⟩
  rw [hb1] at hS2 ⊢
  have hb1l : b1 < w2.heap.size := by omega
  have hb1g : w.heap.size < b1 := by omega
  clear hA hB2 hE1 hs1 hs2 hb1 c2 c3 c4 c5 c6 c7 c8 c9
  have hcs : ∀ W, Below w2.heap.size w2 W → W.cell? ⟨ab, 0, none⟩ = some (.slice (some ⟨ob, oo, none⟩) a.c.length ck) ∧ W.cell? ⟨b1, 0, none⟩ = some (.int .i64 pn) ∧ W.cell? ⟨b1, 1, none⟩ = some (.int .i64 (a.s.c 0)) ∧ W.cell? ⟨b1, 2, none⟩ = some (.int .i64 (a.s.c 1)) ∧ W.cell? ⟨b1, 3, none⟩ = some (.int .i64 (a.s.c 2)) ∧ W.cell? ⟨b1, 4, none⟩ = some (.int .i64 (a.s.c 3)) ∧ W.cell? ⟨b1, 5, none⟩ = some (.int .i64 (a.s.c 4)) ∧ W.cell? ⟨b1, 6, none⟩ = some (.int .i64 (a.s.c 5)) ∧ W.cell? ⟨b1, 7, none⟩ = some (.bool a.s.f) := fun W hb => by
    have hS := (hb.block b1 hb1l).trans hS2
    refine ⟨((hb2.trans (hb.mono hb2.size)).cell (p := ⟨ab, 0, none⟩) hlt).trans c0, ?_⟩
    simp [World.cell?, hS]
  go_cut [10, 11, 12] from 18 to 29 (fun s10 s11 s12 wx => s11 = .int .i64 0 ∧ s12 = .iface 63 (.int .i64 1) ∧ ∃ sb, s10 = .pointer (some ⟨sb, 0, none⟩) ∧ w2.heap.size ≤ sb ∧ sb < wx.heap.size ∧ wx.heap[sb]? = some (.cells #[.int .i64 0, .int .i64 0, .int .i64 0, .int .i64 0, .int .i64 0, .int .i64 0, .int .i64 0, .bool false] 39 (0, 0)) ∧ Below w2.heap.size w2 wx)
  case first =>
    have bcur : Below w2.heap.size w2 w2.drew := (Below.refl _ _).drew
    have bcur2 : Below w2.heap.size w2 (w2.alloc (.cells #[.int .i64 0, .int .i64 0, .int .i64 0, .int .i64 0, .int .i64 0, .int .i64 0, .int .i64 0, .bool false] 39)).drew := ((Below.refl _ _).alloc (Nat.le_refl _) _).drew
    have hZ : (w2.alloc (.cells #[.int .i64 0, .int .i64 0, .int .i64 0, .int .i64 0, .int .i64 0, .int .i64 0, .int .i64 0, .bool false] 39)).drew.heap[w2.heap.size]? = some (.cells #[.int .i64 0, .int .i64 0, .int .i64 0, .int .i64 0, .int .i64 0, .int .i64 0, .int .i64 0, .bool false] 39) := World.alloc_heap_new _ _
    have hsZ : (w2.alloc (.cells #[.int .i64 0, .int .i64 0, .int .i64 0, .int .i64 0, .int .i64 0, .int .i64 0, .int .i64 0, .bool false] 39)).drew.heap.size = w2.heap.size + 1 := by simp
    have k := hcs w2 (Below.refl _ _)
    go_region_held3 (fun W => W.cell? ⟨ab, 0, none⟩ = some (.slice (some ⟨ob, oo, none⟩) a.c.length ck) ∧ W.cell? ⟨b1, 0, none⟩ = some (.int .i64 pn) ∧ W.cell? ⟨b1, 1, none⟩ = some (.int .i64 (a.s.c 0)) ∧ W.cell? ⟨b1, 2, none⟩ = some (.int .i64 (a.s.c 1)) ∧ W.cell? ⟨b1, 3, none⟩ = some (.int .i64 (a.s.c 2)) ∧ W.cell? ⟨b1, 4, none⟩ = some (.int .i64 (a.s.c 3)) ∧ W.cell? ⟨b1, 5, none⟩ = some (.int .i64 (a.s.c 4)) ∧ W.cell? ⟨b1, 6, none⟩ = some (.int .i64 (a.s.c 5)) ∧ W.cell? ⟨b1, 7, none⟩ = some (.bool a.s.f))
      (first | with_reducible exact k | with_reducible exact hcs _ bcur | with_reducible exact hcs _ (bcur.alloc bcur.size _) | with_reducible exact hcs _ bcur2 | with_reducible exact hcs _ (below_st8 bcur w2.heap.size (Nat.le_refl _) _ _ _ _ _ _ _ _) | go_keep)
      (first
        | (go_at_call 20; refine (HS.out _ (hb2.trans (bcur.mono hb2.size))).mono ?_; rintro e wN ⟨rfl, bN⟩; replace bcur := bcur.trans (bN.mono bcur.size); clear bN)
        | (go_at_call 20; refine (HS.out _ (hb2.trans (bcur2.mono hb2.size))).mono ?_; rintro e wN ⟨rfl, bN⟩; have hkZ : wN.heap[w2.heap.size]? = some (.cells #[.int .i64 0, .int .i64 0, .int .i64 0, .int .i64 0, .int .i64 0, .int .i64 0, .int .i64 0, .bool false] 39) := (bN.block w2.heap.size (by rw [hsZ]; omega)).trans hZ; have z0 : wN.cell? ⟨w2.heap.size, 0, none⟩ = some (.int .i64 0) := (by simp [World.cell?, hkZ]); have z1 : wN.cell? ⟨w2.heap.size, 1, none⟩ = some (.int .i64 0) := (by simp [World.cell?, hkZ]); have z2 : wN.cell? ⟨w2.heap.size, 2, none⟩ = some (.int .i64 0) := (by simp [World.cell?, hkZ]); have z3 : wN.cell? ⟨w2.heap.size, 3, none⟩ = some (.int .i64 0) := (by simp [World.cell?, hkZ]); have z4 : wN.cell? ⟨w2.heap.size, 4, none⟩ = some (.int .i64 0) := (by simp [World.cell?, hkZ]); have z5 : wN.cell? ⟨w2.heap.size, 5, none⟩ = some (.int .i64 0) := (by simp [World.cell?, hkZ]); have z6 : wN.cell? ⟨w2.heap.size, 6, none⟩ = some (.int .i64 0) := (by simp [World.cell?, hkZ]); have z7 : wN.cell? ⟨w2.heap.size, 7, none⟩ = some (.bool false) := (by simp [World.cell?, hkZ]); have y0 : wN.frozen? ⟨w2.heap.size, 0, none⟩ = false := (by simp [World.frozen?, hkZ]); have y1 : wN.frozen? ⟨w2.heap.size, 1, none⟩ = false := (by simp [World.frozen?, hkZ]); have y2 : wN.frozen? ⟨w2.heap.size, 2, none⟩ = false := (by simp [World.frozen?, hkZ]); have y3 : wN.frozen? ⟨w2.heap.size, 3, none⟩ = false := (by simp [World.frozen?, hkZ]); have y4 : wN.frozen? ⟨w2.heap.size, 4, none⟩ = false := (by simp [World.frozen?, hkZ]); have y5 : wN.frozen? ⟨w2.heap.size, 5, none⟩ = false := (by simp [World.frozen?, hkZ]); have y6 : wN.frozen? ⟨w2.heap.size, 6, none⟩ = false := (by simp [World.frozen?, hkZ]); have y7 : wN.frozen? ⟨w2.heap.size, 7, none⟩ = false := (by simp [World.frozen?, hkZ]); replace bcur := bcur2.trans (bN.mono bcur2.size); clear bN))
    all_goals (go_wp2_with fail; go_meet)
    · exact ⟨rfl, rfl, wN.heap.size, rfl, bcur.size, by simp, World.alloc_heap_new _ _, bcur.alloc bcur.size _⟩
    · have hltZ : w2.heap.size < wN.heap.size := (Array.getElem?_eq_some_iff.1 hkZ).1
      exact ⟨rfl, rfl, w2.heap.size, rfl, Nat.le_refl _, by simpa using hltZ, zst_set hkZ st0, below_st8 bcur _ (Nat.le_refl _) _ _ _ _ _ _ _ _⟩
  case rest =>
  obtain ⟨rfl, rfl, sb, rfl, hsb1, hsb2, hSb, hb4⟩ := hcut
  clear hcs
  generalize wc = w4 at *
  have hs2 := hb2.size
  have hs4 := hb4.size
  have hR := (hb4.block w.heap.size (by omega)).trans hE2
  have HB : Hid (Below w.heap.size w w4) := hb2.trans (hb4.mono hs2)
  have r0 : w4.cell? ⟨w.heap.size, 0, none⟩ = some (.int .i64 0) := by simp [World.cell?, hR]
  have g0 : w4.frozen? ⟨w.heap.size, 0, none⟩ = false := by simp [World.frozen?, hR]
  have r1 : w4.cell? ⟨w.heap.size, 1, none⟩ = some (.int .i64 0) := by simp [World.cell?, hR]
  have g1 : w4.frozen? ⟨w.heap.size, 1, none⟩ = false := by simp [World.frozen?, hR]
  have r2 : w4.cell? ⟨w.heap.size, 2, none⟩ = some (.int .i64 0) := by simp [World.cell?, hR]
  have g2 : w4.frozen? ⟨w.heap.size, 2, none⟩ = false := by simp [World.frozen?, hR]
  have r3 : w4.cell? ⟨w.heap.size, 3, none⟩ = some (.int .i64 0) := by simp [World.cell?, hR]
  have g3 : w4.frozen? ⟨w.heap.size, 3, none⟩ = false := by simp [World.frozen?, hR]
  clear hR hSb hE2 hS2
  go_wp2
  refine bodyPost_ret (v := .tuple #[evA (0, 0, 0, 0), .int .i64 0, wErr 1]) ?_ rfl ⟨rfl, ?_⟩
  · simp [results, Tryd.results8, go_sem, evA, wErr, r0, r1, r2, r3]
  · exact (((HB.out.setCell (p := ⟨w.heap.size, 0, none⟩) (Nat.le_refl _) _).setCell (p := ⟨w.heap.size, 1, none⟩) (Nat.le_refl _) _).setCell (p := ⟨w.heap.size, 2, none⟩) (Nat.le_refl _) _).setCell (p := ⟨w.heap.size, 3, none⟩) (Nat.le_refl _) _
set_option maxRecDepth 100000 in
set_option maxHeartbeats 16000000 in
theorem alstep_ok (a : AD) (ab base : Nat) (cv : Value) (F0 : List Nat) (got : Int) (is : Bool) (w : World) (hfm : Forms w) (h : GA w base a ab cv F0) (hx : AOk a) (hg : ¬ gotNo got is) (ht : a.t < 1000000) :
    Calls Tryd.prog 8 #[.pointer (some ⟨ab, 0, none⟩), .int .i64 got, .bool is] w fun e w' => e = .returned (.tuple #[evA (evOf a is), .int .i64 (sentA a), .nilIface]) ∧ GA w' base (stepA a got is) ab cv F0 ∧ KTouch [ab] w w' := by
  have H : Hid (GA w base a ab cv F0) := h
  have hlt := h.abl
  have hblk := h.blk
  have hop := hx.op
  obtain ⟨pn, hpn⟩ : ∃ n : Nat, a.s.p = n := ⟨a.s.p.toNat, by have := (stOk_iff.1 hx.st).1; omega⟩
  have hpl : pn < a.c.length := by have := (stOk_iff.1 hx.st).2.1; omega
  obtain ⟨ob, oo, ck, rfl, holt, hoce⟩ : ∃ b off cap, cv = .slice (some ⟨b, off, none⟩) a.c.length cap ∧ b < w.heap.size ∧ ∀ (i : Nat) o, a.c[i]? = some o → w.cell? ⟨b, off + i * 3, none⟩ = some (.int .i64 o.1) ∧ w.cell? ⟨b, off + i * 3 + 1, none⟩ = some (.int .i64 o.2.1) ∧ w.cell? ⟨b, off + i * 3 + 2, none⟩ = some (.int .i64 o.2.2) := by
    rcases h.ops with ⟨h0, _⟩ | h1
    · rw [h0] at hpl
      simp at hpl
    · exact h1
  obtain ⟨o, hoe⟩ : ∃ o, a.op = o := ⟨_, rfl⟩
  have hoc : a.c[pn]? = some o := by
    have := hop.2
    rw [hpn, hoe] at this
    simpa using this
  obtain ⟨o0, o1, o2⟩ := hoce pn o hoc
  obtain ⟨s', hs'⟩ : ∃ s', stepF o a.s a.c.length got is = s' := ⟨_, rfl⟩
  have HSs : Hid (stepF o a.s a.c.length got is = s') := hs'
  have HS : Hid (∀ W, Below w.heap.size w W → Calls Tryd.prog 20 #[.slice (some ⟨ob, oo, none⟩) a.c.length ck, .agg #[.int .i64 pn, .int .i64 (a.s.c 0), .int .i64 (a.s.c 1), .int .i64 (a.s.c 2), .int .i64 (a.s.c 3), .int .i64 (a.s.c 4), .int .i64 (a.s.c 5), .bool a.s.f], .int .i64 got, .bool is] W fun e w' => e = .returned (.tuple #[.agg #[.int .i64 s'.p, .int .i64 (s'.c 0), .int .i64 (s'.c 1), .int .i64 (s'.c 2), .int .i64 (s'.c 3), .int .i64 (s'.c 4), .int .i64 (s'.c 5), .bool s'.f], .int .i64 (sentA a), .nilIface]) ∧ Below W.heap.size W w') := fun W hb => by
    have h1 := rstep_any a.c (.slice (some ⟨ob, oo, none⟩) a.c.length ck) a.s got is W (hfm.all hb) (h.ops.all hb)
    have h2 : gchk a.c a.s got is = 0 := by
      unfold gchk rchk
      rw [if_pos hx.ck, if_pos hx.st, if_pos rfl, if_neg (show ¬ (is = true ∧ (got < 0 ∨ 999 < got)) from hg)]
    have hod : a.c.getD a.s.p.toNat (0, 0, 0) = o := hoe
    unfold stepT at h1
    rw [if_pos h2, hod, hs'] at h1
    have hse : sentA a = sendF o a.s := by unfold sentA; rw [hoe]
    rw [hse, ← hpn]
    exact h1
  clear hs'
  have HPN : Hid (a.s.p = (pn : Int)) := hpn
  have HOE : Hid (a.op = o) := hoe
  obtain ⟨c0, c1, c2, c3, c4, c5, c6, c7, c8, c9, c10⟩ := gaO_cs hblk
  rw [hpn] at c2
  have hpi : (pn : Int) < (a.c.length : Int) := by omega
  have hpd : decide ((a.c.length : Int) ≤ (pn : Int)) = false := decide_eq_false (by omega)
  clear h hoce hoc hoe hop hpn hx
  have hA : Below w.heap.size w (w.alloc (.cells #[.int .i64 0, .int .i64 0, .int .i64 0, .int .i64 0] 45)) := (Below.refl _ _).alloc (Nat.le_refl _) _
  have hE1 : (w.alloc (.cells #[.int .i64 0, .int .i64 0, .int .i64 0, .int .i64 0] 45)).heap[w.heap.size]? = some (.cells #[.int .i64 0, .int .i64 0, .int .i64 0, .int .i64 0] 45 (0, 0)) := World.alloc_heap_new _ _
  have hs1 : (w.alloc (.cells #[.int .i64 0, .int .i64 0, .int .i64 0, .int .i64 0] 45)).heap.size = w.heap.size + 1 := by simp
  go_enter Tryd.func8, Tryd.ntmps8
  go_upto_region 1 with fail
  have d := fun o => hA.cell (p := ⟨ab, o, none⟩) hlt
  have d2 := (d 2).trans c2
  have d3 := (d 3).trans c3
  have d4 := (d 4).trans c4
  have d5 := (d 5).trans c5
  have d6 := (d 6).trans c6
  have d7 := (d 7).trans c7
  have d8 := (d 8).trans c8
  have d9 := (d 9).trans c9
  clear d
  generalize w.alloc (.cells #[.int .i64 0, .int .i64 0, .int .i64 0, .int .i64 0] 45) = w1 at hA hE1 hs1 d2 d3 d4 d5 d6 d7 d8 d9 ⊢
  go_upto_region 2 with fail
  clear d2 d3 d4 d5 d6 d7 d8 d9
  have hB2 : Below w1.heap.size w1 (w1.alloc (.cells #[.int .i64 pn, .int .i64 (a.s.c 0), .int .i64 (a.s.c 1), .int .i64 (a.s.c 2), .int .i64 (a.s.c 3), .int .i64 (a.s.c 4), .int .i64 (a.s.c 5), .bool a.s.f] 39)) := (Below.refl _ _).alloc (Nat.le_refl _) _
  have hS2 : (w1.alloc (.cells #[.int .i64 pn, .int .i64 (a.s.c 0), .int .i64 (a.s.c 1), .int .i64 (a.s.c 2), .int .i64 (a.s.c 3), .int .i64 (a.s.c 4), .int .i64 (a.s.c 5), .bool a.s.f] 39)).heap[w1.heap.size]? = some (.cells #[.int .i64 pn, .int .i64 (a.s.c 0), .int .i64 (a.s.c 1), .int .i64 (a.s.c 2), .int .i64 (a.s.c 3), .int .i64 (a.s.c 4), .int .i64 (a.s.c 5), .bool a.s.f] 39 (0, 0)) := World.alloc_heap_new _ _
  have hs2 : (w1.alloc (.cells #[.int .i64 pn, .int .i64 (a.s.c 0), .int .i64 (a.s.c 1), .int .i64 (a.s.c 2), .int .i64 (a.s.c 3), .int .i64 (a.s.c 4), .int .i64 (a.s.c 5), .bool a.s.f] 39)).heap.size = w1.heap.size + 1 := by simp
  generalize w1.alloc (.cells #[.int .i64 pn, .int .i64 (a.s.c 0), .int .i64 (a.s.c 1), .int .i64 (a.s.c 2), .int .i64 (a.s.c 3), .int .i64 (a.s.c 4), .int .i64 (a.s.c 5), .bool a.s.f] 39) = w2 at hB2 hS2 hs2 ⊢
  have hb2 : Below w.heap.size w w2 := hA.trans (hB2.mono hA.size)
  have hE2 := (hB2.block w.heap.size (by omega)).trans hE1
  rw [hs1] at hS2
  obtain ⟨b1, hb1⟩ : ∃ b, w.heap.size + 1 = b := ⟨_, rfl⟩
  rw [hb1] at hS2 ⊢
  have hb1l : b1 < w2.heap.size := by omega
  have hb1g : w.heap.size < b1 := by omega
  clear hA hB2 hE1 hs1 hs2 hb1 c2 c3 c4 c5 c6 c7 c8 c9
  have hcs : ∀ W, Below w2.heap.size w2 W → W.cell? ⟨ab, 0, none⟩ = some (.slice (some ⟨ob, oo, none⟩) a.c.length ck) ∧ W.cell? ⟨b1, 0, none⟩ = some (.int .i64 pn) ∧ W.cell? ⟨b1, 1, none⟩ = some (.int .i64 (a.s.c 0)) ∧ W.cell? ⟨b1, 2, none⟩ = some (.int .i64 (a.s.c 1)) ∧ W.cell? ⟨b1, 3, none⟩ = some (.int .i64 (a.s.c 2)) ∧ W.cell? ⟨b1, 4, none⟩ = some (.int .i64 (a.s.c 3)) ∧ W.cell? ⟨b1, 5, none⟩ = some (.int .i64 (a.s.c 4)) ∧ W.cell? ⟨b1, 6, none⟩ = some (.int .i64 (a.s.c 5)) ∧ W.cell? ⟨b1, 7, none⟩ = some (.bool a.s.f) := fun W hb => by
    have hS := (hb.block b1 hb1l).trans hS2
    refine ⟨((hb2.trans (hb.mono hb2.size)).cell (p := ⟨ab, 0, none⟩) hlt).trans c0, ?_⟩
    simp [World.cell?, hS]
  go_cut [10, 11, 12] from 18 to 29 (fun s10 s11 s12 wx => s11 = .int .i64 (sentA a) ∧ s12 = .nilIface ∧ ∃ sb, s10 = .pointer (some ⟨sb, 0, none⟩) ∧ w2.heap.size ≤ sb ∧ sb < wx.heap.size ∧ wx.heap[sb]? = some (.cells #[.int .i64 s'.p, .int .i64 (s'.c 0), .int .i64 (s'.c 1), .int .i64 (s'.c 2), .int .i64 (s'.c 3), .int .i64 (s'.c 4), .int .i64 (s'.c 5), .bool s'.f] 39 (0, 0)) ∧ Below w2.heap.size w2 wx)
  case first =>
    have bcur : Below w2.heap.size w2 w2.drew := (Below.refl _ _).drew
    have bcur2 : Below w2.heap.size w2 (w2.alloc (.cells #[.int .i64 0, .int .i64 0, .int .i64 0, .int .i64 0, .int .i64 0, .int .i64 0, .int .i64 0, .bool false] 39)).drew := ((Below.refl _ _).alloc (Nat.le_refl _) _).drew
    have hZ : (w2.alloc (.cells #[.int .i64 0, .int .i64 0, .int .i64 0, .int .i64 0, .int .i64 0, .int .i64 0, .int .i64 0, .bool false] 39)).drew.heap[w2.heap.size]? = some (.cells #[.int .i64 0, .int .i64 0, .int .i64 0, .int .i64 0, .int .i64 0, .int .i64 0, .int .i64 0, .bool false] 39) := World.alloc_heap_new _ _
    have hsZ : (w2.alloc (.cells #[.int .i64 0, .int .i64 0, .int .i64 0, .int .i64 0, .int .i64 0, .int .i64 0, .int .i64 0, .bool false] 39)).drew.heap.size = w2.heap.size + 1 := by simp
    have k := hcs w2 (Below.refl _ _)
    go_region_held3 (fun W => W.cell? ⟨ab, 0, none⟩ = some (.slice (some ⟨ob, oo, none⟩) a.c.length ck) ∧ W.cell? ⟨b1, 0, none⟩ = some (.int .i64 pn) ∧ W.cell? ⟨b1, 1, none⟩ = some (.int .i64 (a.s.c 0)) ∧ W.cell? ⟨b1, 2, none⟩ = some (.int .i64 (a.s.c 1)) ∧ W.cell? ⟨b1, 3, none⟩ = some (.int .i64 (a.s.c 2)) ∧ W.cell? ⟨b1, 4, none⟩ = some (.int .i64 (a.s.c 3)) ∧ W.cell? ⟨b1, 5, none⟩ = some (.int .i64 (a.s.c 4)) ∧ W.cell? ⟨b1, 6, none⟩ = some (.int .i64 (a.s.c 5)) ∧ W.cell? ⟨b1, 7, none⟩ = some (.bool a.s.f))
      (first | with_reducible exact k | with_reducible exact hcs _ bcur | with_reducible exact hcs _ (bcur.alloc bcur.size _) | with_reducible exact hcs _ bcur2 | with_reducible exact hcs _ (below_st8 bcur w2.heap.size (Nat.le_refl _) _ _ _ _ _ _ _ _) | go_keep)
      (first
        | (go_at_call 20; refine (HS.out _ (hb2.trans (bcur.mono hb2.size))).mono ?_; rintro e wN ⟨rfl, bN⟩; replace bcur := bcur.trans (bN.mono bcur.size); clear bN)
        | (go_at_call 20; refine (HS.out _ (hb2.trans (bcur2.mono hb2.size))).mono ?_; rintro e wN ⟨rfl, bN⟩; have hkZ : wN.heap[w2.heap.size]? = some (.cells #[.int .i64 0, .int .i64 0, .int .i64 0, .int .i64 0, .int .i64 0, .int .i64 0, .int .i64 0, .bool false] 39) := (bN.block w2.heap.size (by rw [hsZ]; omega)).trans hZ; have z0 : wN.cell? ⟨w2.heap.size, 0, none⟩ = some (.int .i64 0) := (by simp [World.cell?, hkZ]); have z1 : wN.cell? ⟨w2.heap.size, 1, none⟩ = some (.int .i64 0) := (by simp [World.cell?, hkZ]); have z2 : wN.cell? ⟨w2.heap.size, 2, none⟩ = some (.int .i64 0) := (by simp [World.cell?, hkZ]); have z3 : wN.cell? ⟨w2.heap.size, 3, none⟩ = some (.int .i64 0) := (by simp [World.cell?, hkZ]); have z4 : wN.cell? ⟨w2.heap.size, 4, none⟩ = some (.int .i64 0) := (by simp [World.cell?, hkZ]); have z5 : wN.cell? ⟨w2.heap.size, 5, none⟩ = some (.int .i64 0) := (by simp [World.cell?, hkZ]); have z6 : wN.cell? ⟨w2.heap.size, 6, none⟩ = some (.int .i64 0) := (by simp [World.cell?, hkZ]); have z7 : wN.cell? ⟨w2.heap.size, 7, none⟩ = some (.bool false) := (by simp [World.cell?, hkZ]); have y0 : wN.frozen? ⟨w2.heap.size, 0, none⟩ = false := (by simp [World.frozen?, hkZ]); have y1 : wN.frozen? ⟨w2.heap.size, 1, none⟩ = false := (by simp [World.frozen?, hkZ]); have y2 : wN.frozen? ⟨w2.heap.size, 2, none⟩ = false := (by simp [World.frozen?, hkZ]); have y3 : wN.frozen? ⟨w2.heap.size, 3, none⟩ = false := (by simp [World.frozen?, hkZ]); have y4 : wN.frozen? ⟨w2.heap.size, 4, none⟩ = false := (by simp [World.frozen?, hkZ]); have y5 : wN.frozen? ⟨w2.heap.size, 5, none⟩ = false := (by simp [World.frozen?, hkZ]); have y6 : wN.frozen? ⟨w2.heap.size, 6, none⟩ = false := (by simp [World.frozen?, hkZ]); have y7 : wN.frozen? ⟨w2.heap.size, 7, none⟩ = false := (by simp [World.frozen?, hkZ]); replace bcur := bcur2.trans (bN.mono bcur2.size); clear bN))
    all_goals (go_wp2_with fail; go_meet)
    · exact ⟨rfl, rfl, wN.heap.size, rfl, bcur.size, by simp, World.alloc_heap_new _ _, bcur.alloc bcur.size _⟩
    · have hltZ : w2.heap.size < wN.heap.size := (Array.getElem?_eq_some_iff.1 hkZ).1
      exact ⟨rfl, rfl, w2.heap.size, rfl, Nat.le_refl _, by simpa using hltZ, zst_set hkZ s', below_st8 bcur _ (Nat.le_refl _) _ _ _ _ _ _ _ _⟩
  case rest =>
  obtain ⟨rfl, rfl, sb, rfl, hsb1, hsb2, hSb, hb4⟩ := hcut
  clear hcs
  generalize wc = w4 at *
  have hs2 := hb2.size
  have hs4 := hb4.size
  have hE4 := (hb4.block w.heap.size (by omega)).trans hE2
  have hS4 := (hb4.block b1 hb1l).trans hS2
  have HB : Hid (Below w.heap.size w w4) := hb2.trans (hb4.mono hs2)
  have hcs : ∀ W, Below w4.heap.size w4 W → (W.cell? ⟨ab, 0, none⟩ = some (.slice (some ⟨ob, oo, none⟩) a.c.length ck) ∧ W.cell? ⟨ab, 1, none⟩ = some (.int .i64 a.r) ∧ W.cell? ⟨ab, 10, none⟩ = some (.int .i64 a.t) ∧ W.cell? ⟨ob, oo + pn * 3, none⟩ = some (.int .i64 o.1)) ∧ (W.cell? ⟨ob, oo + pn * 3 + 1, none⟩ = some (.int .i64 o.2.1) ∧ W.cell? ⟨ob, oo + pn * 3 + 2, none⟩ = some (.int .i64 o.2.2) ∧ W.cell? ⟨b1, 0, none⟩ = some (.int .i64 pn) ∧ W.cell? ⟨b1, 1, none⟩ = some (.int .i64 (a.s.c 0))) ∧ (W.cell? ⟨b1, 2, none⟩ = some (.int .i64 (a.s.c 1)) ∧ W.cell? ⟨b1, 3, none⟩ = some (.int .i64 (a.s.c 2)) ∧ W.cell? ⟨b1, 4, none⟩ = some (.int .i64 (a.s.c 3)) ∧ W.cell? ⟨b1, 5, none⟩ = some (.int .i64 (a.s.c 4))) ∧ (W.cell? ⟨b1, 6, none⟩ = some (.int .i64 (a.s.c 5)) ∧ W.cell? ⟨b1, 7, none⟩ = some (.bool a.s.f) ∧ W.cell? ⟨sb, 0, none⟩ = some (.int .i64 s'.p) ∧ W.cell? ⟨sb, 1, none⟩ = some (.int .i64 (s'.c 0))) ∧ (W.cell? ⟨sb, 2, none⟩ = some (.int .i64 (s'.c 1)) ∧ W.cell? ⟨sb, 3, none⟩ = some (.int .i64 (s'.c 2)) ∧ W.cell? ⟨sb, 4, none⟩ = some (.int .i64 (s'.c 3)) ∧ W.cell? ⟨sb, 5, none⟩ = some (.int .i64 (s'.c 4))) ∧ (W.cell? ⟨sb, 6, none⟩ = some (.int .i64 (s'.c 5)) ∧ W.cell? ⟨sb, 7, none⟩ = some (.bool s'.f)) := fun W hb => by
    have hbw := HB.out.trans (hb.mono (Nat.le_trans hs2 hs4))
    have hS := (hb.block b1 (by omega)).trans hS4
    have hT := (hb.block sb hsb2).trans hSb
    refine ⟨⟨(hbw.cell (p := ⟨ab, 0, none⟩) hlt).trans c0, (hbw.cell (p := ⟨ab, 1, none⟩) hlt).trans c1, (hbw.cell (p := ⟨ab, 10, none⟩) hlt).trans c10, (hbw.cell (p := ⟨ob, oo + pn * 3, none⟩) holt).trans o0⟩, ⟨(hbw.cell (p := ⟨ob, oo + pn * 3 + 1, none⟩) holt).trans o1, (hbw.cell (p := ⟨ob, oo + pn * 3 + 2, none⟩) holt).trans o2, ?_⟩, ?_⟩
    all_goals simp [World.cell?, hS, hT]
  have HC : Hid (∀ W, Calls Tryd.prog 21 #[.agg #[.int .i64 o.1, .int .i64 o.2.1, .int .i64 o.2.2], .agg #[.int .i64 pn, .int .i64 (a.s.c 0), .int .i64 (a.s.c 1), .int .i64 (a.s.c 2), .int .i64 (a.s.c 3), .int .i64 (a.s.c 4), .int .i64 (a.s.c 5), .bool a.s.f], .agg #[.int .i64 s'.p, .int .i64 (s'.c 0), .int .i64 (s'.c 1), .int .i64 (s'.c 2), .int .i64 (s'.c 3), .int .i64 (s'.c 4), .int .i64 (s'.c 5), .bool s'.f], .bool is] W fun e w' => e = .returned (.int .i64 (whatF o a.s is)) ∧ Below W.heap.size W w') := fun W => by
    have h1 := came_any o.1 o.2.1 o.2.2 a.s s' is W
    have h2 := came_what o a.s a.c.length got is
    rw [HSs.out] at h2
    rw [h2] at h1
    rw [← HPN.out]
    exact h1
  have HSb : Hid (w4.heap[sb]? = _) := hSb
  have hnl : (a.c.length : Int) ≤ maxLen ∨ True := Or.inr trivial
  clear c0 c1 c10 o0 o1 o2 hS2 hS4 hE2 hSb hnl
  go_upto_region 5 with fail
  go_cut [13] from 34 to 56 (fun s13 wx => ∃ eb, s13 = .pointer (some ⟨eb, 0, none⟩) ∧ w4.heap.size ≤ eb ∧ eb < wx.heap.size ∧ wx.heap[eb]? = some (.cells #[.int .i64 a.t, .int .i64 a.r, .int .i64 pn, .int .i64 (whatF o a.s is)] 45 (0, 0)) ∧ Below w4.heap.size w4 wx)
  case first =>
    have bcur : Below w4.heap.size w4 w4.drew := (Below.refl _ _).drew
    have bcur2 : Below w4.heap.size w4 (w4.alloc (.cells #[.int .i64 0, .int .i64 0, .int .i64 0, .int .i64 0] 45)).drew := ((Below.refl _ _).alloc (Nat.le_refl _) _).drew
    have hZ : (w4.alloc (.cells #[.int .i64 0, .int .i64 0, .int .i64 0, .int .i64 0] 45)).drew.heap[w4.heap.size]? = some (.cells #[.int .i64 0, .int .i64 0, .int .i64 0, .int .i64 0] 45 (0, 0)) := World.alloc_heap_new _ _
    have hsZ : (w4.alloc (.cells #[.int .i64 0, .int .i64 0, .int .i64 0, .int .i64 0] 45)).drew.heap.size = w4.heap.size + 1 := by simp
    have k := hcs w4 (Below.refl _ _)
    go_region_held3 (fun W => (W.cell? ⟨ab, 0, none⟩ = some (.slice (some ⟨ob, oo, none⟩) a.c.length ck) ∧ W.cell? ⟨ab, 1, none⟩ = some (.int .i64 a.r) ∧ W.cell? ⟨ab, 10, none⟩ = some (.int .i64 a.t) ∧ W.cell? ⟨ob, oo + pn * 3, none⟩ = some (.int .i64 o.1)) ∧ (W.cell? ⟨ob, oo + pn * 3 + 1, none⟩ = some (.int .i64 o.2.1) ∧ W.cell? ⟨ob, oo + pn * 3 + 2, none⟩ = some (.int .i64 o.2.2) ∧ W.cell? ⟨b1, 0, none⟩ = some (.int .i64 pn) ∧ W.cell? ⟨b1, 1, none⟩ = some (.int .i64 (a.s.c 0))) ∧ (W.cell? ⟨b1, 2, none⟩ = some (.int .i64 (a.s.c 1)) ∧ W.cell? ⟨b1, 3, none⟩ = some (.int .i64 (a.s.c 2)) ∧ W.cell? ⟨b1, 4, none⟩ = some (.int .i64 (a.s.c 3)) ∧ W.cell? ⟨b1, 5, none⟩ = some (.int .i64 (a.s.c 4))) ∧ (W.cell? ⟨b1, 6, none⟩ = some (.int .i64 (a.s.c 5)) ∧ W.cell? ⟨b1, 7, none⟩ = some (.bool a.s.f) ∧ W.cell? ⟨sb, 0, none⟩ = some (.int .i64 s'.p) ∧ W.cell? ⟨sb, 1, none⟩ = some (.int .i64 (s'.c 0))) ∧ (W.cell? ⟨sb, 2, none⟩ = some (.int .i64 (s'.c 1)) ∧ W.cell? ⟨sb, 3, none⟩ = some (.int .i64 (s'.c 2)) ∧ W.cell? ⟨sb, 4, none⟩ = some (.int .i64 (s'.c 3)) ∧ W.cell? ⟨sb, 5, none⟩ = some (.int .i64 (s'.c 4))) ∧ (W.cell? ⟨sb, 6, none⟩ = some (.int .i64 (s'.c 5)) ∧ W.cell? ⟨sb, 7, none⟩ = some (.bool s'.f)))
      (first | with_reducible exact k | with_reducible exact hcs _ bcur | with_reducible exact hcs _ (bcur.alloc bcur.size _) | with_reducible exact hcs _ bcur2 | with_reducible exact hcs _ ((((bcur.setCell (p := ⟨w4.heap.size, 0, none⟩) (Nat.le_refl _) _).setCell (p := ⟨w4.heap.size, 1, none⟩) (Nat.le_refl _) _).setCell (p := ⟨w4.heap.size, 2, none⟩) (Nat.le_refl _) _).setCell (p := ⟨w4.heap.size, 3, none⟩) (Nat.le_refl _) _) | go_keep)
      (first
        | (go_at_call 21; refine (HC.out w4.drew).mono ?_; rintro e wN ⟨rfl, bN⟩; replace bcur := bcur.trans (bN.mono bcur.size); clear bN)
        | (go_at_call 21; refine (HC.out _).mono ?_; rintro e wN ⟨rfl, bN⟩; have hkZ : wN.heap[w4.heap.size]? = some (.cells #[.int .i64 0, .int .i64 0, .int .i64 0, .int .i64 0] 45 (0, 0)) := (bN.block w4.heap.size (by rw [hsZ]; omega)).trans hZ; obtain ⟨z0, z1, z2, z3⟩ := EvB.cs hkZ; obtain ⟨y0, y1, y2, y3⟩ := EvB.fs hkZ; replace bcur := bcur2.trans (bN.mono bcur2.size); clear bN))
    all_goals (go_wp2_with fail; go_meet)
    · exact ⟨wN.heap.size, rfl, bcur.size, by simp, World.alloc_heap_new _ _, bcur.alloc bcur.size _⟩
    · have hltZ : w4.heap.size < wN.heap.size := (Array.getElem?_eq_some_iff.1 hkZ).1
      exact ⟨w4.heap.size, rfl, Nat.le_refl _, by simpa using hltZ, EvB.set hkZ _ _ _ _, (((bcur.setCell (p := ⟨w4.heap.size, 0, none⟩) (Nat.le_refl _) _).setCell (p := ⟨w4.heap.size, 1, none⟩) (Nat.le_refl _) _).setCell (p := ⟨w4.heap.size, 2, none⟩) (Nat.le_refl _) _).setCell (p := ⟨w4.heap.size, 3, none⟩) (Nat.le_refl _) _⟩
  case rest =>
  obtain ⟨eb, rfl, heb1, heb2, hEb, hb5⟩ := hcut
  clear hcs HC
  generalize wc = w5 at *
  have hs5 := hb5.size
  have hE5 := (hb5.block w.heap.size (by omega)).trans hE4
  have hSb5 := (hb5.block sb hsb2).trans HSb.out
  have HB5 : Hid (Below w.heap.size w w5) := HB.out.trans (hb5.mono (Nat.le_trans hs2 hs4))
  have hAb := (HB5.out.block ab hlt).trans hblk
  clear hE4 HSb HB hb5 hb4 hb2
  have hne1 : sb ≠ ab := by omega
  have hne2 : ab ≠ sb := by omega
  go_upto_region 6 with fail
  go_cut [57] from 57 to 60 (fun _ wx => wx.heap[ab]? = some (gaO (.slice (some ⟨ob, oo, none⟩) a.c.length ck) ⟨a.c, a.r, s', a.t⟩) ∧ KTouch [ab] w5 wx)
  case first =>
    obtain ⟨_, _, c2, c3, c4, c5, c6, c7, c8, c9, _⟩ := gaO_cs hAb
    have y2 := gaO_fz hAb 2
    have y3 := gaO_fz hAb 3
    have y4 := gaO_fz hAb 4
    have y5 := gaO_fz hAb 5
    have y6 := gaO_fz hAb 6
    have y7 := gaO_fz hAb 7
    have y8 := gaO_fz hAb 8
    have y9 := gaO_fz hAb 9
    have t0 : w5.cell? ⟨sb, 0, none⟩ = some (.int .i64 s'.p) := by simp [World.cell?, hSb5]
    have t1 : w5.cell? ⟨sb, 1, none⟩ = some (.int .i64 (s'.c 0)) := by simp [World.cell?, hSb5]
    have t2 : w5.cell? ⟨sb, 2, none⟩ = some (.int .i64 (s'.c 1)) := by simp [World.cell?, hSb5]
    have t3 : w5.cell? ⟨sb, 3, none⟩ = some (.int .i64 (s'.c 2)) := by simp [World.cell?, hSb5]
    have t4 : w5.cell? ⟨sb, 4, none⟩ = some (.int .i64 (s'.c 3)) := by simp [World.cell?, hSb5]
    have t5 : w5.cell? ⟨sb, 5, none⟩ = some (.int .i64 (s'.c 4)) := by simp [World.cell?, hSb5]
    have t6 : w5.cell? ⟨sb, 6, none⟩ = some (.int .i64 (s'.c 5)) := by simp [World.cell?, hSb5]
    have t7 : w5.cell? ⟨sb, 7, none⟩ = some (.bool s'.f) := by simp [World.cell?, hSb5]
    have HAb : Hid (w5.heap[ab]? = some (gaO (.slice (some ⟨ob, oo, none⟩) a.c.length ck) a)) := hAb
    clear hAb hSb5 hEb hE5 hblk
    go_wp2_with fail
    go_meet
    case rel => exact ⟨gaO_set HAb.out s', touch_st _ _ _ _ _ _ _ _ _ _⟩
  case rest =>
  obtain ⟨hAb6, tk6⟩ := hcut
  have hs6 := tk6.size
  have hEb6 := (tk6.block eb heb2 (by simp; omega)).trans hEb
  have hR := (tk6.block w.heap.size (by omega) (by simp; omega)).trans hE5
  have HT : Hid (KTouch [ab] w wc) := (KTouch.of (M := [ab]) HB5.out).trans tk6
  clear hAb hEb hE5 hSb5 tk6 HB5 hblk
  generalize wc = w6 at *
  have c10 := (gaO_cs hAb6).2.2.2.2.2.2.2.2.2.2
  simp only at c10
  have y10 := gaO_fz hAb6 10
  have e0 : w6.cell? ⟨eb, 0, none⟩ = some (.int .i64 a.t) := by simp [World.cell?, hEb6]
  have e1 : w6.cell? ⟨eb, 1, none⟩ = some (.int .i64 a.r) := by simp [World.cell?, hEb6]
  have e2 : w6.cell? ⟨eb, 2, none⟩ = some (.int .i64 pn) := by simp [World.cell?, hEb6]
  have e3 : w6.cell? ⟨eb, 3, none⟩ = some (.int .i64 (whatF o a.s is)) := by simp [World.cell?, hEb6]
  have r0 : w6.cell? ⟨w.heap.size, 0, none⟩ = some (.int .i64 0) := by simp [World.cell?, hR]
  have g0 : w6.frozen? ⟨w.heap.size, 0, none⟩ = false := by simp [World.frozen?, hR]
  have r1 : w6.cell? ⟨w.heap.size, 1, none⟩ = some (.int .i64 0) := by simp [World.cell?, hR]
  have g1 : w6.frozen? ⟨w.heap.size, 1, none⟩ = false := by simp [World.frozen?, hR]
  have r2 : w6.cell? ⟨w.heap.size, 2, none⟩ = some (.int .i64 0) := by simp [World.cell?, hR]
  have g2 : w6.frozen? ⟨w.heap.size, 2, none⟩ = false := by simp [World.frozen?, hR]
  have r3 : w6.cell? ⟨w.heap.size, 3, none⟩ = some (.int .i64 0) := by simp [World.cell?, hR]
  have g3 : w6.frozen? ⟨w.heap.size, 3, none⟩ = false := by simp [World.frozen?, hR]
  have HAb : Hid (w6.heap[ab]? = some (gaO (.slice (some ⟨ob, oo, none⟩) a.c.length ck) ⟨a.c, a.r, s', a.t⟩)) := hAb6
  have htn := H.out.tn
  have hn1 : ab ≠ eb := by omega
  have hn2 : ab ≠ w.heap.size := by omega
  have hn3 : eb ≠ w.heap.size := by omega
  have hn1' : eb ≠ ab := by omega
  have hn2' : w.heap.size ≠ ab := by omega
  have hn3' : w.heap.size ≠ eb := by omega
  clear hAb6 hEb6 hR
  have hev : evA (evOf a is) = .agg #[.int .i64 a.t, .int .i64 a.r, .int .i64 pn, .int .i64 (whatF o a.s is)] := by
    unfold evA evOf
    simp only [HPN.out, HOE.out]
  have HEV : Hid (evA (evOf a is) = .agg #[.int .i64 a.t, .int .i64 a.r, .int .i64 pn, .int .i64 (whatF o a.s is)]) := hev
  clear hev
  go_wp2
  refine bodyPost_ret (v := .tuple #[evA (evOf a is), .int .i64 (sentA a), .nilIface]) ?_ rfl ⟨rfl, ?_, ?_⟩
  · rw [HEV.out]
    simp [results, Tryd.results8, go_sem, r0, r1, r2, r3]
  all_goals
    have tA : KTouch [ab] w6 (w6.setCell ⟨ab, 10, none⟩ (.int .i64 (a.t + 1))) := KTouch.set _ (by simp) 10 _
    have hB6 := gaO_turn HAb.out (a.t + 1)
    generalize w6.setCell ⟨ab, 10, none⟩ (.int .i64 (a.t + 1)) = w7 at tA hB6 ⊢
    have tB : KTouch [w.heap.size] w7 ((((w7.setCell ⟨w.heap.size, 0, none⟩ (.int .i64 a.t)).setCell ⟨w.heap.size, 1, none⟩ (.int .i64 a.r)).setCell ⟨w.heap.size, 2, none⟩ (.int .i64 pn)).setCell ⟨w.heap.size, 3, none⟩ (.int .i64 (whatF o a.s is))) :=
      (((KTouch.set w7 (by simp) 0 _).trans (KTouch.set _ (by simp) 1 _)).trans (KTouch.set _ (by simp) 2 _)).trans (KTouch.set _ (by simp) 3 _)
    generalize (((w7.setCell ⟨w.heap.size, 0, none⟩ (.int .i64 a.t)).setCell ⟨w.heap.size, 1, none⟩ (.int .i64 a.r)).setCell ⟨w.heap.size, 2, none⟩ (.int .i64 pn)).setCell ⟨w.heap.size, 3, none⟩ (.int .i64 (whatF o a.s is)) = w8 at tB ⊢
    have tW : KTouch [ab] w w8 := (HT.out.trans tA).more tB (fun m hm => by simp at hm; omega)
    have hs7 := tA.size
  · have e : stepA a got is = ⟨a.c, a.r, s', a.t + 1⟩ := by unfold stepA; rw [HOE.out, HSs.out]
    rw [e]
    exact H.out.set tW ((tB.block ab (by omega) (by simp; omega)).trans hB6) rfl (by show 0 ≤ a.t + 1; omega)
  · exact tW
end Go.Proofs.YtanndhamnfnjfafDoor
