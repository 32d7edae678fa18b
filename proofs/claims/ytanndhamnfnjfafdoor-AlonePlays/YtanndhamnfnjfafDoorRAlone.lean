/-
  (*frameref2.Alone).Step: the document's room on a machine of its own.
-/
import Derived.Test.YtanndhamnfnjfafDoorJb2
import Derived.Test.YtanndhamnfnjfafDoorJb3
import Derived.Test.YtanndhamnfnjfafDoorRefStep6
import Derived.Deep.RegionHeld3
import Derived.Deep.CutRange
import Derived.Deep.RegionWith
import Derived.RangeFuncRecord
namespace Go.Proofs.YtanndhamnfnjfafDoor
open Go.RowKit

/-- The block of the document's machine. -/
def alO (cv : Value) (a : AD) : Obj := .cells #[cv, .int .i64 a.r, .int .i64 a.s.p, .int .i64 (a.s.c 0), .int .i64 (a.s.c 1), .int .i64 (a.s.c 2), .int .i64 (a.s.c 3), .int .i64 (a.s.c 4), .int .i64 (a.s.c 5), .bool a.s.f, .int .i64 a.t] 41 (0, 0)
structure RAl (w : World) (ab : Nat) (cv : Value) (a : AD) : Prop where
  blk : w.heap[ab]? = some (alO cv a)
  ops : Ops w cv a.c
theorem RAl.lt {w : World} {ab : Nat} {cv : Value} {a : AD} (h : RAl w ab cv a) : ab < w.heap.size := (Array.getElem?_eq_some_iff.1 h.blk).1
theorem alO_cs {w : World} {ab : Nat} {cv : Value} {a : AD} (h : w.heap[ab]? = some (alO cv a)) : w.cell? ⟨ab, 0, none⟩ = some cv ∧ w.cell? ⟨ab, 1, none⟩ = some (.int .i64 a.r) ∧ w.cell? ⟨ab, 2, none⟩ = some (.int .i64 a.s.p) ∧ w.cell? ⟨ab, 3, none⟩ = some (.int .i64 (a.s.c 0)) ∧ w.cell? ⟨ab, 4, none⟩ = some (.int .i64 (a.s.c 1)) ∧ w.cell? ⟨ab, 5, none⟩ = some (.int .i64 (a.s.c 2)) ∧ w.cell? ⟨ab, 6, none⟩ = some (.int .i64 (a.s.c 3)) ∧ w.cell? ⟨ab, 7, none⟩ = some (.int .i64 (a.s.c 4)) ∧ w.cell? ⟨ab, 8, none⟩ = some (.int .i64 (a.s.c 5)) ∧ w.cell? ⟨ab, 9, none⟩ = some (.bool a.s.f) ∧ w.cell? ⟨ab, 10, none⟩ = some (.int .i64 a.t) := by
  unfold alO at h
  simp [World.cell?, h]
theorem alO_fz {w : World} {ab : Nat} {cv : Value} {a : AD} (h : w.heap[ab]? = some (alO cv a)) (o : Nat) : w.frozen? ⟨ab, o, none⟩ = false := by
  unfold alO at h
  simp [World.frozen?, h]
/-- Its state is written. -/
theorem alO_set {w : World} {ab : Nat} {cv : Value} {a : AD} (h : w.heap[ab]? = some (alO cv a)) (s : St) : ((((((((w.setCell ⟨ab, 2, none⟩ (.int .i64 s.p)).setCell ⟨ab, 3, none⟩ (.int .i64 (s.c 0))).setCell ⟨ab, 4, none⟩ (.int .i64 (s.c 1))).setCell ⟨ab, 5, none⟩ (.int .i64 (s.c 2))).setCell ⟨ab, 6, none⟩ (.int .i64 (s.c 3))).setCell ⟨ab, 7, none⟩ (.int .i64 (s.c 4))).setCell ⟨ab, 8, none⟩ (.int .i64 (s.c 5))).setCell ⟨ab, 9, none⟩ (.bool s.f)).heap[ab]? = some (alO cv ⟨a.c, a.r, s, a.t⟩) := by
  unfold alO at h ⊢
  simp [World.setCell, Array.getElem?_modify, h]
theorem alO_turn {w : World} {ab : Nat} {cv : Value} {a : AD} (h : w.heap[ab]? = some (alO cv a)) (t : Int) : (w.setCell ⟨ab, 10, none⟩ (.int .i64 t)).heap[ab]? = some (alO cv ⟨a.c, a.r, a.s, t⟩) := by
  unfold alO at h ⊢
  simp [World.setCell, Array.getElem?_modify, h]
set_option maxRecDepth 100000 in
set_option maxHeartbeats 8000000 in
theorem ralstep_any (a : AD) (ab : Nat) (cv : Value) (got : Int) (is : Bool) (w : World) (h : RAl w ab cv a) (hx : AOk a) (ht : 0 ≤ a.t ∧ a.t < 1000000) (hcv : ∀ g, cv.ownBlock = some g → g ≠ ab) :
    Calls Tryd.prog 7 #[.pointer (some ⟨ab, 0, none⟩), .int .i64 got, .bool is] w fun e w' => e = .returned (.tuple #[evA (evOf a is), .int .i64 (sentA a)]) ∧ RAl w' ab cv (stepA a got is) ∧ KTouch [ab] w w' := by
  have hlt := h.lt
  have hblk := h.blk
  have hrk : rchk a.c a.s = 0 := by unfold rchk; rw [if_pos hx.ck, if_pos hx.st]
  obtain ⟨co, cl, ck, rfl⟩ : ∃ co cl ck, cv = .slice co cl ck := by
    obtain ⟨co, ck, hh⟩ := h.ops.form
    exact ⟨_, _, _, hh⟩
  have HS : Hid (∀ W, Below w.heap.size w W → Calls Tryd.prog 19 #[.slice co cl ck, .agg #[.int .i64 a.s.p, .int .i64 (a.s.c 0), .int .i64 (a.s.c 1), .int .i64 (a.s.c 2), .int .i64 (a.s.c 3), .int .i64 (a.s.c 4), .int .i64 (a.s.c 5), .bool a.s.f], .int .i64 got, .bool is] W fun e w' => e = .returned (.tuple #[.agg #[.int .i64 (stepA a got is).s.p, .int .i64 ((stepA a got is).s.c 0), .int .i64 ((stepA a got is).s.c 1), .int .i64 ((stepA a got is).s.c 2), .int .i64 ((stepA a got is).s.c 3), .int .i64 ((stepA a got is).s.c 4), .int .i64 ((stepA a got is).s.c 5), .bool (stepA a got is).s.f], .int .i64 (sentA a), .int .i64 (whatF a.op a.s is)]) ∧ Below W.heap.size W w') := fun W hb => by
    refine (refstep_what a.c _ a.s got is W (h.ops.all hb) hrk).mono ?_
    rintro e w' ⟨⟨q, rfl, rfl⟩, h2⟩
    exact ⟨rfl, h2⟩
  have HOp : Hid (Ops w (.slice co cl ck) a.c) := h.ops
  obtain ⟨c0, c1, c2, c3, c4, c5, c6, c7, c8, c9, c10⟩ := alO_cs hblk
  have hA : Below w.heap.size w (w.alloc (.cells #[.int .i64 0, .int .i64 0, .int .i64 0, .int .i64 0] 45)) := (Below.refl _ _).alloc (Nat.le_refl _) _
  have hcs : ∀ W, Below w.heap.size w W → W.cell? ⟨ab, 1, none⟩ = some (.int .i64 a.r) ∧ W.cell? ⟨ab, 2, none⟩ = some (.int .i64 a.s.p) ∧ W.cell? ⟨ab, 10, none⟩ = some (.int .i64 a.t) := fun W hb => ⟨(hb.cell (p := ⟨ab, 1, none⟩) hlt).trans c1, (hb.cell (p := ⟨ab, 2, none⟩) hlt).trans c2, (hb.cell (p := ⟨ab, 10, none⟩) hlt).trans c10⟩
  clear h hrk
  go_enter Tryd.func7, Tryd.ntmps7
  go_upto_region 1 with fail
  have hs1 : (w.alloc (.cells #[.int .i64 0, .int .i64 0, .int .i64 0, .int .i64 0] 45)).heap.size = w.heap.size + 1 := by simp
  have hE1 : (w.alloc (.cells #[.int .i64 0, .int .i64 0, .int .i64 0, .int .i64 0] 45)).heap[w.heap.size]? = some (.cells #[.int .i64 0, .int .i64 0, .int .i64 0, .int .i64 0] 45) := World.alloc_heap_new _ _
  generalize w.alloc (.cells #[.int .i64 0, .int .i64 0, .int .i64 0, .int .i64 0] 45) = w1 at hA hs1 hE1 ⊢
  have k := hcs w1 hA
  go_cut [8] from 12 to 25 (fun s8 wx => ∃ eb, s8 = .pointer (some ⟨eb, 0, none⟩) ∧ w.heap.size + 1 ≤ eb ∧ eb < wx.heap.size ∧ wx.heap[eb]? = some (.cells #[.int .i64 a.t, .int .i64 a.r, .int .i64 a.s.p, .int .i64 0] 45) ∧ Below (w.heap.size + 1) w1 wx)
  case first =>
    have bcur : Below w1.heap.size w1 w1.drew := (Below.refl _ _).drew
    go_region_held3 (fun W => W.cell? ⟨ab, 1, none⟩ = some (.int .i64 a.r) ∧ W.cell? ⟨ab, 2, none⟩ = some (.int .i64 a.s.p) ∧ W.cell? ⟨ab, 10, none⟩ = some (.int .i64 a.t))
      (first | exact k | go_keep)
      (fail)
    all_goals (go_wp2_with fail; go_meet; refine ⟨w.heap.size + 1, rfl, Nat.le_refl _, ?_, ?_, ?_⟩)
    · simp; omega
    · rw [← hs1]; exact World.alloc_heap_new _ _
    · exact ((Below.refl _ w1).alloc (by omega) _).drew
  case rest =>
  obtain ⟨eb, rfl, he1, he2, hEb, hB2⟩ := hcut
  clear k hcs
  generalize wc = w2 at *
  have hb2 : Below w.heap.size w w2 := hA.trans (hB2.mono (Nat.le_succ _))
  have hcs : ∀ W, Below w.heap.size w W → W.cell? ⟨ab, 0, none⟩ = some (.slice co cl ck) ∧ W.cell? ⟨ab, 2, none⟩ = some (.int .i64 a.s.p) ∧ W.cell? ⟨ab, 3, none⟩ = some (.int .i64 (a.s.c 0)) ∧ W.cell? ⟨ab, 4, none⟩ = some (.int .i64 (a.s.c 1)) ∧ W.cell? ⟨ab, 5, none⟩ = some (.int .i64 (a.s.c 2)) ∧ W.cell? ⟨ab, 6, none⟩ = some (.int .i64 (a.s.c 3)) ∧ W.cell? ⟨ab, 7, none⟩ = some (.int .i64 (a.s.c 4)) ∧ W.cell? ⟨ab, 8, none⟩ = some (.int .i64 (a.s.c 5)) ∧ W.cell? ⟨ab, 9, none⟩ = some (.bool a.s.f) := fun W hb => ⟨(hb.cell (p := ⟨ab, 0, none⟩) hlt).trans c0, (hb.cell (p := ⟨ab, 2, none⟩) hlt).trans c2, (hb.cell (p := ⟨ab, 3, none⟩) hlt).trans c3, (hb.cell (p := ⟨ab, 4, none⟩) hlt).trans c4, (hb.cell (p := ⟨ab, 5, none⟩) hlt).trans c5, (hb.cell (p := ⟨ab, 6, none⟩) hlt).trans c6, (hb.cell (p := ⟨ab, 7, none⟩) hlt).trans c7, (hb.cell (p := ⟨ab, 8, none⟩) hlt).trans c8, (hb.cell (p := ⟨ab, 9, none⟩) hlt).trans c9⟩
  have hE2 : w2.heap[w.heap.size]? = some (.cells #[.int .i64 0, .int .i64 0, .int .i64 0, .int .i64 0] 45) := (hB2.block w.heap.size (by omega)).trans hE1
  clear hE1 hB2 hA
  go_upto_region 2 with fail
  go_cut [9, 10, 11] from 26 to 40 (fun s9 s10 s11 wx => s10 = .int .i64 (sentA a) ∧ s11 = .int .i64 (whatF a.op a.s is) ∧ ∃ sb, s9 = .pointer (some ⟨sb, 0, none⟩) ∧ w2.heap.size ≤ sb ∧ sb < wx.heap.size ∧ wx.heap[sb]? = some (.cells #[.int .i64 (stepA a got is).s.p, .int .i64 ((stepA a got is).s.c 0), .int .i64 ((stepA a got is).s.c 1), .int .i64 ((stepA a got is).s.c 2), .int .i64 ((stepA a got is).s.c 3), .int .i64 ((stepA a got is).s.c 4), .int .i64 ((stepA a got is).s.c 5), .bool (stepA a got is).s.f] 39) ∧ Below w2.heap.size w2 wx)
  case first =>
    have bcur : Below w2.heap.size w2 w2.drew := (Below.refl _ _).drew
    have bcur2 : Below w2.heap.size w2 (w2.alloc (.cells #[.int .i64 0, .int .i64 0, .int .i64 0, .int .i64 0, .int .i64 0, .int .i64 0, .int .i64 0, .bool false] 39)).drew := ((Below.refl _ _).alloc (Nat.le_refl _) _).drew
    have hZ : (w2.alloc (.cells #[.int .i64 0, .int .i64 0, .int .i64 0, .int .i64 0, .int .i64 0, .int .i64 0, .int .i64 0, .bool false] 39)).drew.heap[w2.heap.size]? = some (.cells #[.int .i64 0, .int .i64 0, .int .i64 0, .int .i64 0, .int .i64 0, .int .i64 0, .int .i64 0, .bool false] 39) := World.alloc_heap_new _ _
    have hsZ : (w2.alloc (.cells #[.int .i64 0, .int .i64 0, .int .i64 0, .int .i64 0, .int .i64 0, .int .i64 0, .int .i64 0, .bool false] 39)).drew.heap.size = w2.heap.size + 1 := by simp
    have k := hcs w2 hb2
    go_region_held3 (fun W => W.cell? ⟨ab, 0, none⟩ = some (.slice co cl ck) ∧ W.cell? ⟨ab, 2, none⟩ = some (.int .i64 a.s.p) ∧ W.cell? ⟨ab, 3, none⟩ = some (.int .i64 (a.s.c 0)) ∧ W.cell? ⟨ab, 4, none⟩ = some (.int .i64 (a.s.c 1)) ∧ W.cell? ⟨ab, 5, none⟩ = some (.int .i64 (a.s.c 2)) ∧ W.cell? ⟨ab, 6, none⟩ = some (.int .i64 (a.s.c 3)) ∧ W.cell? ⟨ab, 7, none⟩ = some (.int .i64 (a.s.c 4)) ∧ W.cell? ⟨ab, 8, none⟩ = some (.int .i64 (a.s.c 5)) ∧ W.cell? ⟨ab, 9, none⟩ = some (.bool a.s.f))
      (first | with_reducible exact k | with_reducible exact hcs _ (hb2.trans (bcur.mono hb2.size)) | with_reducible exact hcs _ (hb2.trans ((bcur.alloc bcur.size _).mono hb2.size)) | with_reducible exact hcs _ (hb2.trans (bcur2.mono hb2.size)) | with_reducible exact hcs _ (hb2.trans ((below_st8 bcur w2.heap.size (Nat.le_refl _) _ _ _ _ _ _ _ _).mono hb2.size)) | go_keep)
      (first
        | (go_at_call 19; refine (HS.out _ (hb2.trans (bcur.mono hb2.size))).mono ?_; rintro e wN ⟨rfl, bN⟩; replace bcur := bcur.trans (bN.mono bcur.size); clear bN)
        | (go_at_call 19; refine (HS.out _ (hb2.trans (bcur2.mono hb2.size))).mono ?_; rintro e wN ⟨rfl, bN⟩; have hkZ : wN.heap[w2.heap.size]? = some (.cells #[.int .i64 0, .int .i64 0, .int .i64 0, .int .i64 0, .int .i64 0, .int .i64 0, .int .i64 0, .bool false] 39) := (bN.block w2.heap.size (by rw [hsZ]; omega)).trans hZ; have z0 : wN.cell? ⟨w2.heap.size, 0, none⟩ = some (.int .i64 0) := (by simp [World.cell?, hkZ]); have z1 : wN.cell? ⟨w2.heap.size, 1, none⟩ = some (.int .i64 0) := (by simp [World.cell?, hkZ]); have z2 : wN.cell? ⟨w2.heap.size, 2, none⟩ = some (.int .i64 0) := (by simp [World.cell?, hkZ]); have z3 : wN.cell? ⟨w2.heap.size, 3, none⟩ = some (.int .i64 0) := (by simp [World.cell?, hkZ]); have z4 : wN.cell? ⟨w2.heap.size, 4, none⟩ = some (.int .i64 0) := (by simp [World.cell?, hkZ]); have z5 : wN.cell? ⟨w2.heap.size, 5, none⟩ = some (.int .i64 0) := (by simp [World.cell?, hkZ]); have z6 : wN.cell? ⟨w2.heap.size, 6, none⟩ = some (.int .i64 0) := (by simp [World.cell?, hkZ]); have z7 : wN.cell? ⟨w2.heap.size, 7, none⟩ = some (.bool false) := (by simp [World.cell?, hkZ]); have y0 : wN.frozen? ⟨w2.heap.size, 0, none⟩ = false := (by simp [World.frozen?, hkZ]); have y1 : wN.frozen? ⟨w2.heap.size, 1, none⟩ = false := (by simp [World.frozen?, hkZ]); have y2 : wN.frozen? ⟨w2.heap.size, 2, none⟩ = false := (by simp [World.frozen?, hkZ]); have y3 : wN.frozen? ⟨w2.heap.size, 3, none⟩ = false := (by simp [World.frozen?, hkZ]); have y4 : wN.frozen? ⟨w2.heap.size, 4, none⟩ = false := (by simp [World.frozen?, hkZ]); have y5 : wN.frozen? ⟨w2.heap.size, 5, none⟩ = false := (by simp [World.frozen?, hkZ]); have y6 : wN.frozen? ⟨w2.heap.size, 6, none⟩ = false := (by simp [World.frozen?, hkZ]); have y7 : wN.frozen? ⟨w2.heap.size, 7, none⟩ = false := (by simp [World.frozen?, hkZ]); replace bcur := bcur2.trans (bN.mono bcur2.size); clear bN))
    all_goals (go_wp2_with fail; go_meet)
    · exact ⟨rfl, rfl, wN.heap.size, rfl, bcur.size, by simp, World.alloc_heap_new _ _, bcur.alloc bcur.size _⟩
    · have hltZ : w2.heap.size < wN.heap.size := (Array.getElem?_eq_some_iff.1 hkZ).1
      exact ⟨rfl, rfl, w2.heap.size, rfl, Nat.le_refl _, by simpa using hltZ, zst_set hkZ (stepA a got is).s, below_st8 bcur _ (Nat.le_refl _) _ _ _ _ _ _ _ _⟩
  case rest =>
  obtain ⟨rfl, rfl, sb, rfl, hsb1, hsb2, hSb, hb4⟩ := hcut
  clear hcs
  generalize wc = w4 at *
  have hs2 := hb2.size
  have hs4 := hb4.size
  have hAb : w4.heap[ab]? = some (alO (.slice co cl ck) a) := (hb4.block ab (by omega)).trans ((hb2.block ab hlt).trans hblk)
  have hEb4 : w4.heap[eb]? = some (.cells #[.int .i64 a.t, .int .i64 a.r, .int .i64 a.s.p, .int .i64 0] 45) := (hb4.block eb he2).trans hEb
  have hRb4 : w4.heap[w.heap.size]? = some (.cells #[.int .i64 0, .int .i64 0, .int .i64 0, .int .i64 0] 45) := (hb4.block w.heap.size (by omega)).trans hE2
  clear c0 c1 c2 c3 c4 c5 c6 c7 c8 c9 c10 hE2 hEb
  have hne1 : sb ≠ ab := by omega
  obtain ⟨s', hs'⟩ : ∃ s, (stepA a got is).s = s := ⟨_, rfl⟩
  have HSs : Hid ((stepA a got is).s = s') := hs'
  rw [hs'] at hSb
  clear hs'
  go_upto_region 3 with fail
  go_cut [42] from 41 to 44 (fun _ wx => wx.heap[ab]? = some (alO (.slice co cl ck) ⟨a.c, a.r, s', a.t⟩) ∧ KTouch [ab] w4 wx)
  case first =>
    obtain ⟨_, _, c2, c3, c4, c5, c6, c7, c8, c9, _⟩ := alO_cs hAb
    have y2 := alO_fz hAb 2
    have y3 := alO_fz hAb 3
    have y4 := alO_fz hAb 4
    have y5 := alO_fz hAb 5
    have y6 := alO_fz hAb 6
    have y7 := alO_fz hAb 7
    have y8 := alO_fz hAb 8
    have y9 := alO_fz hAb 9
    have t0 : w4.cell? ⟨sb, 0, none⟩ = some (.int .i64 s'.p) := by simp [World.cell?, hSb]
    have t1 : w4.cell? ⟨sb, 1, none⟩ = some (.int .i64 (s'.c 0)) := by simp [World.cell?, hSb]
    have t2 : w4.cell? ⟨sb, 2, none⟩ = some (.int .i64 (s'.c 1)) := by simp [World.cell?, hSb]
    have t3 : w4.cell? ⟨sb, 3, none⟩ = some (.int .i64 (s'.c 2)) := by simp [World.cell?, hSb]
    have t4 : w4.cell? ⟨sb, 4, none⟩ = some (.int .i64 (s'.c 3)) := by simp [World.cell?, hSb]
    have t5 : w4.cell? ⟨sb, 5, none⟩ = some (.int .i64 (s'.c 4)) := by simp [World.cell?, hSb]
    have t6 : w4.cell? ⟨sb, 6, none⟩ = some (.int .i64 (s'.c 5)) := by simp [World.cell?, hSb]
    have t7 : w4.cell? ⟨sb, 7, none⟩ = some (.bool s'.f) := by simp [World.cell?, hSb]
    have HAb : Hid (w4.heap[ab]? = some (alO (.slice co cl ck) a)) := hAb
    clear hAb hSb hEb4 hRb4
    go_wp2_with fail
    go_meet
    case rel => exact ⟨alO_set HAb.out s', touch_st _ _ _ _ _ _ _ _ _ _⟩
  case rest =>
  obtain ⟨hAb5, tk5⟩ := hcut
  have hs5 := tk5.size
  have hEb5 := (tk5.block eb (by omega) (by simp; omega)).trans hEb4
  have hRb5 := (tk5.block w.heap.size (by omega) (by simp; omega)).trans hRb4
  have HT : Hid (KTouch [ab] w wc) := (KTouch.of (M := [ab]) (hb2.trans (hb4.mono hs2))).trans tk5
  clear hAb hEb4 hRb4 hSb tk5
  generalize wc = w5 at *
  have c10 := (alO_cs hAb5).2.2.2.2.2.2.2.2.2.2
  simp only at c10
  have y10 := alO_fz hAb5 10
  have e0 : w5.cell? ⟨eb, 0, none⟩ = some (.int .i64 a.t) := by simp [World.cell?, hEb5]
  have e1 : w5.cell? ⟨eb, 1, none⟩ = some (.int .i64 a.r) := by simp [World.cell?, hEb5]
  have e2 : w5.cell? ⟨eb, 2, none⟩ = some (.int .i64 a.s.p) := by simp [World.cell?, hEb5]
  have e3 : w5.cell? ⟨eb, 3, none⟩ = some (.int .i64 0) := by simp [World.cell?, hEb5]
  have f3 : w5.frozen? ⟨eb, 3, none⟩ = false := by simp [World.frozen?, hEb5]
  have r0 : w5.cell? ⟨w.heap.size, 0, none⟩ = some (.int .i64 0) := by simp [World.cell?, hRb5]
  have g0 : w5.frozen? ⟨w.heap.size, 0, none⟩ = false := by simp [World.frozen?, hRb5]
  have r1 : w5.cell? ⟨w.heap.size, 1, none⟩ = some (.int .i64 0) := by simp [World.cell?, hRb5]
  have g1 : w5.frozen? ⟨w.heap.size, 1, none⟩ = false := by simp [World.frozen?, hRb5]
  have r2 : w5.cell? ⟨w.heap.size, 2, none⟩ = some (.int .i64 0) := by simp [World.cell?, hRb5]
  have g2 : w5.frozen? ⟨w.heap.size, 2, none⟩ = false := by simp [World.frozen?, hRb5]
  have r3 : w5.cell? ⟨w.heap.size, 3, none⟩ = some (.int .i64 0) := by simp [World.cell?, hRb5]
  have g3 : w5.frozen? ⟨w.heap.size, 3, none⟩ = false := by simp [World.frozen?, hRb5]
  have HAb : Hid (w5.heap[ab]? = some (alO (.slice co cl ck) ⟨a.c, a.r, s', a.t⟩)) := hAb5
  have hn1 : ab ≠ eb := by omega
  have hn2 : ab ≠ w.heap.size := by omega
  have hn3 : eb ≠ w.heap.size := by omega
  have hn1' : eb ≠ ab := by omega
  have hn2' : w.heap.size ≠ ab := by omega
  have hn3' : w.heap.size ≠ eb := by omega
  clear hAb5 hEb5 hRb5
  go_wp2
  refine bodyPost_ret (v := .tuple #[evA (evOf a is), .int .i64 (sentA a)]) ?_ rfl ⟨rfl, ?_, ?_⟩
  · simp [results, Tryd.results7, go_sem, evA, evOf, r0, r1, r2, r3]
  all_goals
    have tA : KTouch [ab] w5 (w5.setCell ⟨ab, 10, none⟩ (.int .i64 (a.t + 1))) := KTouch.set _ (by simp) 10 _
    have hB6 := alO_turn HAb.out (a.t + 1)
    generalize w5.setCell ⟨ab, 10, none⟩ (.int .i64 (a.t + 1)) = w6 at tA hB6 ⊢
    have tB : KTouch [eb, w.heap.size] w6 (((((w6.setCell ⟨eb, 3, none⟩ (.int .i64 (whatF a.op a.s is))).setCell ⟨w.heap.size, 0, none⟩ (.int .i64 a.t)).setCell ⟨w.heap.size, 1, none⟩ (.int .i64 a.r)).setCell ⟨w.heap.size, 2, none⟩ (.int .i64 a.s.p)).setCell ⟨w.heap.size, 3, none⟩ (.int .i64 (whatF a.op a.s is))) :=
      ((((KTouch.set w6 (by simp) 3 _).trans (KTouch.set _ (by simp) 0 _)).trans (KTouch.set _ (by simp) 1 _)).trans (KTouch.set _ (by simp) 2 _)).trans (KTouch.set _ (by simp) 3 _)
    generalize ((((w6.setCell ⟨eb, 3, none⟩ (.int .i64 (whatF a.op a.s is))).setCell ⟨w.heap.size, 0, none⟩ (.int .i64 a.t)).setCell ⟨w.heap.size, 1, none⟩ (.int .i64 a.r)).setCell ⟨w.heap.size, 2, none⟩ (.int .i64 a.s.p)).setCell ⟨w.heap.size, 3, none⟩ (.int .i64 (whatF a.op a.s is)) = w7 at tB ⊢
    have tW : KTouch [ab] w w7 := (HT.out.trans tA).more tB (fun m hm => by simp at hm; omega)
    have hs6 := tA.size
  · refine ⟨?_, HOp.out.block (fun k hk he => tW.block k hk (fun hm => hcv k he (by simpa using hm))) tW.size⟩
    have e : stepA a got is = ⟨a.c, a.r, s', a.t + 1⟩ := by rw [← HSs.out]; rfl
    rw [e]
    exact (tB.block ab (by omega) (by simp; omega)).trans hB6
  · exact tW
end Go.Proofs.YtanndhamnfnjfafDoor
