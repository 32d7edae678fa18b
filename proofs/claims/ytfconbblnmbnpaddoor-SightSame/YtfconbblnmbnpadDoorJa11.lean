/-
  SgtOfG, SgtRunG, StTwo, SSame: joined into one text.
-/
import Derived.Test.YtfconbblnmbnpadDoorJa10
import Derived.Test.YtfconbblnmbnpadDoorJa6
import Derived.Deep.CutRange
import Derived.Test.YtfconbblnmbnpadDoorJa1
import Derived.Deep.RegionLaw
import Derived.Test.YtfconbblnmbnpadDoorJa8
import Derived.Deep.CutBlock
import Derived.Deep.RegionWith
import Derived.Deep.RegionHeld3
import Derived.BigQuiet
import Derived.RangeFuncNested
namespace Go.Proofs.YtfconbblnmbnpadDoor
open Go.RowKit

theorem below8 {B : Nat} {w w' : World} (h : Below B w w') (b : Nat) (hb : B ≤ b) (x0 x1 x2 x3 x4 x5 x6 x7 : Value) : Below B w ((((((((w'.setCell ⟨b, 0, none⟩ x0).setCell ⟨b, 1, none⟩ x1).setCell ⟨b, 2, none⟩ x2).setCell ⟨b, 3, none⟩ x3).setCell ⟨b, 4, none⟩ x4).setCell ⟨b, 5, none⟩ x5).setCell ⟨b, 6, none⟩ x6).setCell ⟨b, 7, none⟩ x7) :=
  (((((((h.setCell (p := ⟨b, 0, none⟩) hb x0).setCell (p := ⟨b, 1, none⟩) hb x1).setCell (p := ⟨b, 2, none⟩) hb x2).setCell (p := ⟨b, 3, none⟩) hb x3).setCell (p := ⟨b, 4, none⟩) hb x4).setCell (p := ⟨b, 5, none⟩) hb x5).setCell (p := ⟨b, 6, none⟩) hb x6).setCell (p := ⟨b, 7, none⟩) hb x7
theorem touch8 (w : World) (b : Nat) (x0 x1 x2 x3 x4 x5 x6 x7 : Value) : KTouch [b] w ((((((((w.setCell ⟨b, 0, none⟩ x0).setCell ⟨b, 1, none⟩ x1).setCell ⟨b, 2, none⟩ x2).setCell ⟨b, 3, none⟩ x3).setCell ⟨b, 4, none⟩ x4).setCell ⟨b, 5, none⟩ x5).setCell ⟨b, 6, none⟩ x6).setCell ⟨b, 7, none⟩ x7) :=
  have hm : b ∈ [b] := by simp
  (((((((KTouch.set w hm 0 x0).trans (KTouch.set _ hm 1 x1)).trans (KTouch.set _ hm 2 x2)).trans (KTouch.set _ hm 3 x3)).trans (KTouch.set _ hm 4 x4)).trans (KTouch.set _ hm 5 x5)).trans (KTouch.set _ hm 6 x6)).trans (KTouch.set _ hm 7 x7)
set_option maxRecDepth 100000 in
set_option maxHeartbeats 2000000 in
theorem sgt_of {G : World → Prop} (C : KerC G) (CW : KerWire C) (hF : ∀ w, G w → Forms w) : SgtOf C := fun {w0 W p vc vs vw k kb F} ic is iw r hG h hk hp hP => by
  have hfw : Forms W := hF W (C.all _ _ hG (C.since h))
  obtain ⟨ca, cc, rfl⟩ := hP.code.form
  obtain ⟨sa, sc, rfl⟩ := hP.spans.form
  obtain ⟨wa, wc', rfl⟩ := hP.wires.form
  have hx0 := Bx.first W (.slice ca p.code.length cc) p.ticks (.slice sa p.spans.length sc) (.slice wa p.wires.length wc')
  have hA0 : Below (W.heap.size + 1) (W.alloc (.cells #[.slice ca p.code.length cc, .int .i64 p.ticks, .slice sa p.spans.length sc, .slice wa p.wires.length wc'] 31)) ((W.alloc (.cells #[.slice ca p.code.length cc, .int .i64 p.ticks, .slice sa p.spans.length sc, .slice wa p.wires.length wc'] 31)).alloc (.cells #[.int .i64 0, .int .i64 0, .int .i64 0, .int .i64 0, .int .i64 0, .int .i64 0, .int .i64 0, .bool false] 48)) := (Below.refl _ _).alloc (by simp) _
  generalize hWA : (W.alloc (.cells #[.slice ca p.code.length cc, .int .i64 p.ticks, .slice sa p.spans.length sc, .slice wa p.wires.length wc'] 31)).alloc (.cells #[.int .i64 0, .int .i64 0, .int .i64 0, .int .i64 0, .int .i64 0, .int .i64 0, .int .i64 0, .bool false] 48) = WA at hA0
  have hx1 : Bx W WA (.slice ca p.code.length cc) p.ticks (.slice sa p.spans.length sc) (.slice wa p.wires.length wc') := hA0
  have hsA : WA.heap.size = W.heap.size + 2 := by rw [← hWA]; simp
  have q1 : Calls Tryd.prog 7 #[.agg #[.slice ca p.code.length cc, .int .i64 p.ticks, .slice sa p.spans.length sc, .slice wa p.wires.length wc']] WA fun e w' => e = .returned .nilIface ∧ Below WA.heap.size WA w' := by
    have := plcheck_any p _ _ _ _ (hfw.all hx1.below) (hP.all hx1.below)
    rw [hp] at this
    exact this
  have HS : Hid (∀ W', Below W.heap.size W W' → Calls Tryd.prog 12 #[.pointer (some ⟨kb, 0, none⟩), .int .i64 r] W' fun e w' => e = .returned (.tuple #[stA (roomK k r), wErr (errB (noRoom k r))]) ∧ Below W'.heap.size W' w') := fun W' hb => C.state r (C.frame h (KTouch.of (M := []) hb) (by simp)) hk hp
  have HAr : Hid (∀ W', Below W.heap.size W W' → Calls Tryd.prog 39 #[.pointer (some ⟨kb, 0, none⟩), .slice wa p.wires.length wc', .int .i64 r] W' fun e w' => ∃ ao m cap, e = .returned (.tuple #[.slice ao m cap, .nilIface]) ∧ HdF W'.heap.size w' (.slice ao m cap) (seesK k r) ∧ Below W'.heap.size W' w') := fun W' hb => saround_any C CW (.slice wa p.wires.length wc') r (C.frame h (KTouch.of (M := []) hb) (by simp)) hk hp (hP.wires.all hb)
  have hrl := hk.rl
  have k0 := hx1.c0
  have k1 := hx1.c1
  have k2 := hx1.c2
  have k3 := hx1.c3
  have hlt : W.heap.size + 1 < WA.heap.size := by omega
  have HZ : Hid (∀ W', Below WA.heap.size WA W' → W'.cell? ⟨W.heap.size + 1, 0, none⟩ = some (.int .i64 0) ∧ W'.cell? ⟨W.heap.size + 1, 1, none⟩ = some (.int .i64 0) ∧ W'.cell? ⟨W.heap.size + 1, 2, none⟩ = some (.int .i64 0) ∧ W'.cell? ⟨W.heap.size + 1, 3, none⟩ = some (.int .i64 0) ∧ W'.cell? ⟨W.heap.size + 1, 4, none⟩ = some (.int .i64 0) ∧ W'.cell? ⟨W.heap.size + 1, 5, none⟩ = some (.int .i64 0) ∧ W'.cell? ⟨W.heap.size + 1, 6, none⟩ = some (.int .i64 0) ∧ W'.cell? ⟨W.heap.size + 1, 7, none⟩ = some (.bool false)) := fun W' hb => ⟨(hb.cell (p := ⟨W.heap.size + 1, 0, none⟩) hlt).trans (by rw [← hWA]; simp [go_sem]), (hb.cell (p := ⟨W.heap.size + 1, 1, none⟩) hlt).trans (by rw [← hWA]; simp [go_sem]), (hb.cell (p := ⟨W.heap.size + 1, 2, none⟩) hlt).trans (by rw [← hWA]; simp [go_sem]), (hb.cell (p := ⟨W.heap.size + 1, 3, none⟩) hlt).trans (by rw [← hWA]; simp [go_sem]), (hb.cell (p := ⟨W.heap.size + 1, 4, none⟩) hlt).trans (by rw [← hWA]; simp [go_sem]), (hb.cell (p := ⟨W.heap.size + 1, 5, none⟩) hlt).trans (by rw [← hWA]; simp [go_sem]), (hb.cell (p := ⟨W.heap.size + 1, 6, none⟩) hlt).trans (by rw [← hWA]; simp [go_sem]), (hb.cell (p := ⟨W.heap.size + 1, 7, none⟩) hlt).trans (by rw [← hWA]; simp [go_sem])⟩
  have HY : Hid (∀ W', Below WA.heap.size WA W' → W'.frozen? ⟨W.heap.size + 1, 0, none⟩ = false ∧ W'.frozen? ⟨W.heap.size + 1, 1, none⟩ = false ∧ W'.frozen? ⟨W.heap.size + 1, 2, none⟩ = false ∧ W'.frozen? ⟨W.heap.size + 1, 3, none⟩ = false ∧ W'.frozen? ⟨W.heap.size + 1, 4, none⟩ = false ∧ W'.frozen? ⟨W.heap.size + 1, 5, none⟩ = false ∧ W'.frozen? ⟨W.heap.size + 1, 6, none⟩ = false ∧ W'.frozen? ⟨W.heap.size + 1, 7, none⟩ = false) := fun W' hb => ⟨(hb.frozen (p := ⟨W.heap.size + 1, 0, none⟩) hlt).trans (by rw [← hWA]; simp [go_sem]), (hb.frozen (p := ⟨W.heap.size + 1, 1, none⟩) hlt).trans (by rw [← hWA]; simp [go_sem]), (hb.frozen (p := ⟨W.heap.size + 1, 2, none⟩) hlt).trans (by rw [← hWA]; simp [go_sem]), (hb.frozen (p := ⟨W.heap.size + 1, 3, none⟩) hlt).trans (by rw [← hWA]; simp [go_sem]), (hb.frozen (p := ⟨W.heap.size + 1, 4, none⟩) hlt).trans (by rw [← hWA]; simp [go_sem]), (hb.frozen (p := ⟨W.heap.size + 1, 5, none⟩) hlt).trans (by rw [← hWA]; simp [go_sem]), (hb.frozen (p := ⟨W.heap.size + 1, 6, none⟩) hlt).trans (by rw [← hWA]; simp [go_sem]), (hb.frozen (p := ⟨W.heap.size + 1, 7, none⟩) hlt).trans (by rw [← hWA]; simp [go_sem])⟩
  unfold plV
  clear hP h hG hx0 hfw hA0
  have hbA := hx1.below
  by_cases hbig : (p.code.length : Int) ≤ r
  · have hno : noRoom k r = true := by
      unfold noRoom
      rw [hrl, Bool.or_eq_true]
      exact Or.inr (decide_eq_true hbig)
    have hrk : roomK k r = stNew := by
      unfold roomK
      rw [if_pos hno]
    have hbd : decide ((p.code.length : Int) ≤ r) = true := decide_eq_true hbig
    rw [hrk, hno, if_pos rfl]
    go_enter Tryd.func18, Tryd.ntmps18
    go_upto_region 1 with fail
    clear hWA
    go_wp2_with (go_at_call 7; refine q1.mono ?_; rintro e w1 ⟨rfl, b1⟩; obtain ⟨z0, z1, z2, z3, z4, z5, z6, z7⟩ := HZ.out w1 b1; obtain ⟨y0, y1, y2, y3, y4, y5, y6, y7⟩ := HY.out w1 b1; have hx2 := hx1.step b1; replace k0 := hx2.c0; replace k1 := hx2.c1; replace k2 := hx2.c2; replace k3 := hx2.c3)
    refine bodyPost_ret (v := .tuple #[stA stNew, .slice none 0 0, wErr (errB true)]) ?_ rfl ⟨_, rfl, Or.inl ⟨rfl, _, _, rfl⟩, ?_⟩
    · simp [results, Tryd.results18, go_sem, stA, stNew, wErr, errB, z0, z1, z2, z3, z4, z5, z6, z7]
    · exact below8 hx2.below (W.heap.size + 1) (by omega) _ _ _ _ _ _ _ _
  · have hbd : decide ((p.code.length : Int) ≤ r) = false := decide_eq_false hbig
    by_cases hneg : r < 0
    · have hno : noRoom k r = true := by
        unfold noRoom
        rw [Bool.or_eq_true]
        exact Or.inl (decide_eq_true hneg)
      have hrk : roomK k r = stNew := by
        unfold roomK
        rw [if_pos hno]
      have HS' : Hid (∀ W', Below W.heap.size W W' → Calls Tryd.prog 12 #[.pointer (some ⟨kb, 0, none⟩), .int .i64 r] W' fun e w' => e = .returned (.tuple #[.agg #[.int .i64 0, .int .i64 0, .int .i64 0, .int .i64 0, .int .i64 0, .int .i64 0, .int .i64 0, .bool false], .iface 71 (.int .i64 1)]) ∧ Below W'.heap.size W' w') := fun W' hb => by
        have := HS.out W' hb
        rw [hrk, hno] at this
        exact this
      rw [hrk, hno, if_pos rfl]
      clear HS
      go_enter Tryd.func18, Tryd.ntmps18
      go_upto_region 1 with fail
      clear hWA
      go_upto_region 8 with (first
        | (go_at_call 7; refine q1.mono ?_; rintro e w1 ⟨rfl, b1⟩; clear q1; have hx2 := hx1.step b1; replace k0 := hx2.c0; replace k1 := hx2.c1; replace k2 := hx2.c2; replace k3 := hx2.c3; have q2 := HS'.out w1 hx2.below)
        | (go_at_call 12; refine q2.mono ?_; rintro e w2 ⟨rfl, b2⟩; clear q2))
      have b12 := b1.trans (b2.mono b1.size)
      have b13 : Below WA.heap.size WA (w2.alloc (.cells #[.int .i64 0, .int .i64 0, .int .i64 0, .int .i64 0, .int .i64 0, .int .i64 0, .int .i64 0, .bool false] 48)) := b12.alloc b12.size _
      generalize w2.alloc (.cells #[.int .i64 0, .int .i64 0, .int .i64 0, .int .i64 0, .int .i64 0, .int .i64 0, .int .i64 0, .bool false] 48) = w3 at b13 ⊢
      have hx3 := hx1.step b13
      obtain ⟨z0, z1, z2, z3, z4, z5, z6, z7⟩ := HZ.out w3 b13
      obtain ⟨y0, y1, y2, y3, y4, y5, y6, y7⟩ := HY.out w3 b13
      go_wp2
      refine bodyPost_ret (v := .tuple #[stA stNew, .slice none 0 0, wErr (errB true)]) ?_ rfl ⟨_, rfl, Or.inl ⟨rfl, _, _, rfl⟩, ?_⟩
      · simp [results, Tryd.results18, go_sem, stA, stNew, wErr, errB, z0, z1, z2, z3, z4, z5, z6, z7]
      · exact below8 hx3.below (W.heap.size + 1) (by omega) _ _ _ _ _ _ _ _
    · obtain ⟨m, rfl⟩ : ∃ m : Nat, r = m := ⟨r.toNat, by omega⟩
      have hno : noRoom k m = false := by
        unfold noRoom
        rw [hrl, Bool.or_eq_false_iff]
        exact ⟨decide_eq_false (by omega), decide_eq_false (by omega)⟩
      obtain ⟨s, hs⟩ : ∃ s, roomK k m = s := ⟨_, rfl⟩
      have HS' : Hid (∀ W', Below W.heap.size W W' → Calls Tryd.prog 12 #[.pointer (some ⟨kb, 0, none⟩), .int .i64 m] W' fun e w' => e = .returned (.tuple #[.agg #[.int .i64 s.p, .int .i64 (s.c 0), .int .i64 (s.c 1), .int .i64 (s.c 2), .int .i64 (s.c 3), .int .i64 (s.c 4), .int .i64 (s.c 5), .bool s.f], .nilIface]) ∧ Below W'.heap.size W' w') := fun W' hb => by
        have := HS.out W' hb
        rw [hs, hno] at this
        exact this
      rw [hs, hno, if_neg (by decide)]
      clear HS hno hs hneg
      go_enter Tryd.func18, Tryd.ntmps18
      go_upto_region 1 with fail
      clear hWA
      go_upto_region 9 with (first
        | (go_at_call 7; refine q1.mono ?_; rintro e w1 ⟨rfl, b1⟩; clear q1; have hx2 := hx1.step b1; replace k0 := hx2.c0; replace k1 := hx2.c1; replace k2 := hx2.c2; replace k3 := hx2.c3; have q2 := HS'.out w1 hx2.below)
        | (go_at_call 12; refine q2.mono ?_; rintro e w2 ⟨rfl, b2⟩; clear q2))
      have b12 := b1.trans (b2.mono b1.size)
      have hB3 : Below w2.heap.size w2 (w2.alloc (.cells #[.int .i64 s.p, .int .i64 (s.c 0), .int .i64 (s.c 1), .int .i64 (s.c 2), .int .i64 (s.c 3), .int .i64 (s.c 4), .int .i64 (s.c 5), .bool s.f] 48)) := (Below.refl _ _).alloc (Nat.le_refl _) _
      have b13 := b12.trans (hB3.mono b12.size)
      have hs0 : StC (w2.alloc (.cells #[.int .i64 s.p, .int .i64 (s.c 0), .int .i64 (s.c 1), .int .i64 (s.c 2), .int .i64 (s.c 3), .int .i64 (s.c 4), .int .i64 (s.c 5), .bool s.f] 48)) w2.heap.size 0 s := by constructor <;> simp [go_sem]
      have hs3 : w2.heap.size < (w2.alloc (.cells #[.int .i64 s.p, .int .i64 (s.c 0), .int .i64 (s.c 1), .int .i64 (s.c 2), .int .i64 (s.c 3), .int .i64 (s.c 4), .int .i64 (s.c 5), .bool s.f] 48)).heap.size := by simp
      generalize w2.alloc (.cells #[.int .i64 s.p, .int .i64 (s.c 0), .int .i64 (s.c 1), .int .i64 (s.c 2), .int .i64 (s.c 3), .int .i64 (s.c 4), .int .i64 (s.c 5), .bool s.f] 48) = w3 at hB3 b13 hs0 hs3 ⊢
      have hx3 := hx1.step b13
      replace k3 := hx3.c3
      have q3 := HAr.out w3 hx3.below
      go_wp2_with (go_at_call 39; refine q3.mono ?_; rintro e w4 ⟨ao, n, cap, rfl, hh, b4⟩; clear q3; have b14 := b13.trans (b4.mono b13.size); have hx4 := hx1.step b14; obtain ⟨z0, z1, z2, z3, z4, z5, z6, z7⟩ := HZ.out w4 b14; obtain ⟨y0, y1, y2, y3, y4, y5, y6, y7⟩ := HY.out w4 b14; obtain ⟨q0, q1, q2, q3, q4, q5, q6, q7⟩ := hs0.block (b4.block _ hs3); have hs2 := b12.size; have hne : w2.heap.size ≠ W.heap.size + 1 := by omega)
      refine bodyPost_ret (v := .tuple #[stA s, .slice ao n cap, wErr (errB false)]) ?_ rfl ⟨_, rfl, ?_, ?_⟩
      · simp [results, Tryd.results18, go_sem, stA, wErr, errB, z0, z1, z2, z3, z4, z5, z6, z7]
      · obtain ⟨l, h1, _⟩ := hh.touch (touch8 w4 (W.heap.size + 1) _ _ _ _ _ _ _ _) (fun m hm => by rw [List.mem_singleton] at hm; have := b13.size; omega)
        exact h1.hdl
      · exact below8 hx4.below (W.heap.size + 1) (by omega) _ _ _ _ _ _ _ _
end Go.Proofs.YtfconbblnmbnpadDoor
namespace Go.Proofs.YtfconbblnmbnpadDoor
open Go.RowKit

/-- The first of a room's states. -/
def stsK (p : PD) (t r : Nat) : List St := (List.range t).map fun i => (kT p i).rooms.getD r stNew
theorem stsK_len (p : PD) (t r : Nat) : (stsK p t r).length = t := by simp [stsK]
theorem stsK_succ (p : PD) (t r : Nat) : stsK p (t + 1) r = stsK p t r ++ [(kT p t).rooms.getD r stNew] := by
  unfold stsK
  rw [List.range_succ, List.map_append]
  rfl
theorem stsK_all (p : PD) (n r : Nat) : stsK p (n + 1) r = statesK p n r := rfl
/-- A row of the caller's own has grown. -/
theorem KTouch.rowG {w w2 wa : World} {row : Option Nat} (hb : Below w.heap.size w w2) (hg : w2.grownBy wa row) : KTouch row.toList w wa :=
  ⟨hg.os.trans hb.os, hg.tape.trans hb.tape, hg.output.trans hb.output, Nat.le_trans hb.size hg.size, fun k hk hm => by
    have := hb.size
    exact (hg.block k (by omega) (fun e => hm (by rw [← e]; simp))).trans (hb.block k hk)⟩
/-- A kernel, and a row of states beside it. -/
structure SRn {G : World → Prop} (C : KerC G) (w0 wr : World) (p : PD) (vc vs vw : Value) (kb B r t : Nat) (v : Value) (F : List Nat) : Prop where
  K : C.K w0 wr p vc vs vw (kT p t) kb F
  own : wr.ownsRow B 48 8 v t (stCells (stsK p t r))
  ap : ∀ g, v.ownBlock = some g → g ∉ F
  B1 : w0.heap.size ≤ B
  B2 : B ≤ wr.heap.size
/-- One more state, and a tick. -/
theorem SRn.more {G : World → Prop} {C : KerC G} {w0 wr w3 w8 : World} {p : PD} {vc vs vw : Value} {kb B r t : Nat} {v v' : Value} {F : List Nat} {s : St} (h : SRn C w0 wr p vc vs vw kb B r t v F) (hs : (kT p t).rooms.getD r stNew = s) (b3 : Below wr.heap.size wr w3) (hg : w3.grownBy w8 v.ownBlock)
    (own8 : w8.ownsRow B 48 8 v' (t + 1) (stCells (stsK p t r) ++ [.int .i64 s.p, .int .i64 (s.c 0), .int .i64 (s.c 1), .int .i64 (s.c 2), .int .i64 (s.c 3), .int .i64 (s.c 4), .int .i64 (s.c 5), .bool s.f])) (hnew : ∀ g, v'.ownBlock = some g → v.ownBlock = some g ∨ w3.heap.size ≤ g) (hG : G w0) (hp : plchk p = 0) (ht : t < 1000000) :
    Calls Tryd.prog 11 #[.pointer (some ⟨kb, 0, none⟩)] w8 fun e w' => ∃ a b c d, e = .returned (.agg #[.int .i64 a, .int .i64 b, .int .i64 c, .int .i64 d]) ∧ ∃ F', SRn C w0 w' p vc vs vw kb B r (t + 1) v' F' := by
  have tk := KTouch.rowG b3 hg
  have hK8 := C.frame h.K tk (fun m hm => by
    have hm' : v.ownBlock = some m := by simpa using hm
    exact ⟨h.ap m hm', Nat.le_trans h.B1 (h.own.lt m hm').1⟩)
  refine (C.tick hG hK8 hp (kT_ok hp t) (by rw [kT_time]; omega)).mono ?_
  rintro e w' ⟨rfl, F', hK', tk', hF'⟩
  have hs8 := tk.size
  have hs3 := b3.size
  have hg8 := hg.size
  have hap8 : ∀ g, v'.ownBlock = some g → g ∉ F := fun g hg' hm => by
    rcases hnew g hg' with h1 | h1
    · exact h.ap g h1 hm
    · have := (C.ge h.K g hm).2
      omega
  refine ⟨_, _, _, _, rfl, F', hK', ?_, fun g hg' hm => ?_, h.B1, Nat.le_trans h.B2 (Nat.le_trans hs8 tk'.size)⟩
  · rw [stsK_succ, stCells_snoc, hs]
    exact own_block own8 (fun g hg' => tk'.block g (own8.lt g hg').2 (hap8 g hg'))
  · rcases hF' g hm with h1 | h1
    · exact hap8 g hg' h1
    · have := (own8.lt g hg').2
      omega
set_option maxRecDepth 100000 in
set_option maxHeartbeats 8000000 in
theorem srun_wrong {G : World → Prop} (C : KerC G) (p : PD) (vc vs vw : Value) (n r : Int) (W : World) (hG : G W) (hP : Pln W vc vs vw p) (hp : plchk p ≠ 0) :
    Calls Tryd.prog 19 #[plV vc p.ticks vs vw, .int .i64 n, .int .i64 r] W fun e w' => e = .returned (.tuple #[.slice none 0 0, wErr (plchk p)]) ∧ Below W.heap.size W w' := by
  obtain ⟨ca, cc, rfl⟩ := hP.code.form
  obtain ⟨sa, sc, rfl⟩ := hP.spans.form
  obtain ⟨wa, wc', rfl⟩ := hP.wires.form
  have hx0 := Bx.first W (.slice ca p.code.length cc) p.ticks (.slice sa p.spans.length sc) (.slice wa p.wires.length wc')
  have q1 := C.no p _ _ _ _ (C.all _ _ hG hx0.below) (hP.all hx0.below) hp
  rw [wErr_not hp] at q1 ⊢
  unfold plV at q1 ⊢
  have k0 := hx0.c0
  have k1 := hx0.c1
  have k2 := hx0.c2
  have k3 := hx0.c3
  clear hP hG
  generalize plchk p = z at q1 hp ⊢
  go_enter Tryd.func19, Tryd.ntmps19
  go_wp2_with (go_at_call 10; refine q1.mono ?_; rintro e w1 ⟨x, rfl, b1⟩)
  go_ret2
  exact ⟨rfl, (hx0.step b1).below⟩
set_option maxRecDepth 100000 in
set_option maxHeartbeats 8000000 in
theorem srun_n {G : World → Prop} (C : KerC G) (p : PD) (vc vs vw : Value) (n r : Int) (W : World) (hG : G W) (hP : Pln W vc vs vw p) (hp : plchk p = 0) (hn : n < 0 ∨ 2000 < n) :
    Calls Tryd.prog 19 #[plV vc p.ticks vs vw, .int .i64 n, .int .i64 r] W fun e w' => e = .returned (.tuple #[.slice none 0 0, wErr 1]) ∧ Below W.heap.size W w' := by
  obtain ⟨ca, cc, rfl⟩ := hP.code.form
  obtain ⟨sa, sc, rfl⟩ := hP.spans.form
  obtain ⟨wa, wc', rfl⟩ := hP.wires.form
  have hx0 := Bx.first W (.slice ca p.code.length cc) p.ticks (.slice sa p.spans.length sc) (.slice wa p.wires.length wc')
  have q1 : Calls Tryd.prog 10 #[.agg #[.slice ca p.code.length cc, .int .i64 p.ticks, .slice sa p.spans.length sc, .slice wa p.wires.length wc']] (W.alloc (.cells #[.slice ca p.code.length cc, .int .i64 p.ticks, .slice sa p.spans.length sc, .slice wa p.wires.length wc'] 31)) fun e w' => ∃ kb, e = .returned (.tuple #[.pointer (some ⟨kb, 0, none⟩), .nilIface]) ∧ Below W.heap.size W w' := by
    refine (C.new p _ _ _ _ (C.all _ _ hG hx0.below) (hP.all hx0.below) hp).mono ?_
    rintro e w' ⟨kb, F, rfl, hK⟩
    exact ⟨kb, rfl, hx0.below.trans ((C.since hK).mono (by simp))⟩
  unfold plV
  have k0 := hx0.c0
  have k1 := hx0.c1
  have k2 := hx0.c2
  have k3 := hx0.c3
  clear hP hG hp
  have hcase : decide (n < 0) = true ∨ (decide (n < 0) = false ∧ decide (2000 < n) = true) := by
    by_cases h : n < 0
    · exact Or.inl (decide_eq_true h)
    · exact Or.inr ⟨decide_eq_false h, decide_eq_true (hn.resolve_left h)⟩
  clear hn
  rcases hcase with h1 | ⟨h1, h2⟩
  · go_enter Tryd.func19, Tryd.ntmps19
    go_wp2_with (go_at_call 10; refine q1.mono ?_; rintro e w1 ⟨kb, rfl, b1⟩)
    go_ret2
    exact ⟨rfl, b1⟩
  · go_enter Tryd.func19, Tryd.ntmps19
    go_wp2_with (go_at_call 10; refine q1.mono ?_; rintro e w1 ⟨kb, rfl, b1⟩)
    go_ret2
    exact ⟨rfl, b1⟩
set_option maxRecDepth 100000 in
set_option maxHeartbeats 8000000 in
theorem srun_room {G : World → Prop} (C : KerC G) (p : PD) (vc vs vw : Value) (n : Nat) (r : Int) (W : World) (hG : G W) (hP : Pln W vc vs vw p) (hp : plchk p = 0) (hn : n ≤ 2000) (hr : r < 0 ∨ (p.code.length : Int) ≤ r) :
    Calls Tryd.prog 19 #[plV vc p.ticks vs vw, .int .i64 n, .int .i64 r] W fun e w' => e = .returned (.tuple #[.slice none 0 0, wErr 1]) ∧ Below W.heap.size W w' := by
  obtain ⟨ca, cc, rfl⟩ := hP.code.form
  obtain ⟨sa, sc, rfl⟩ := hP.spans.form
  obtain ⟨wa, wc', rfl⟩ := hP.wires.form
  have hx0 := Bx.first W (.slice ca p.code.length cc) p.ticks (.slice sa p.spans.length sc) (.slice wa p.wires.length wc')
  have q1 : Calls Tryd.prog 10 #[.agg #[.slice ca p.code.length cc, .int .i64 p.ticks, .slice sa p.spans.length sc, .slice wa p.wires.length wc']] (W.alloc (.cells #[.slice ca p.code.length cc, .int .i64 p.ticks, .slice sa p.spans.length sc, .slice wa p.wires.length wc'] 31)) fun e w' => ∃ kb, e = .returned (.tuple #[.pointer (some ⟨kb, 0, none⟩), .nilIface]) ∧ Below W.heap.size W w' ∧ Calls Tryd.prog 12 #[.pointer (some ⟨kb, 0, none⟩), .int .i64 r] w' fun e w2 => e = .returned (.tuple #[stA stNew, wErr 1]) ∧ Below w'.heap.size w' w2 := by
    refine (C.new p _ _ _ _ (C.all _ _ hG hx0.below) (hP.all hx0.below) hp).mono ?_
    rintro e w' ⟨kb, F, rfl, hK⟩
    have hno : noRoom (newK p) r = true := by
      have hl : (newK p).rooms.length = p.code.length := by simp [newK]
      unfold noRoom
      rw [hl, Bool.or_eq_true]
      rcases hr with h | h
      · exact Or.inl (decide_eq_true h)
      · exact Or.inr (decide_eq_true h)
    have hS := C.state r hK (kT_ok hp 0) hp
    have hrk : roomK (newK p) r = stNew := by
      unfold roomK
      rw [if_pos hno]
    rw [hrk, hno] at hS
    exact ⟨kb, rfl, hx0.below.trans ((C.since hK).mono (by simp)), hS⟩
  unfold plV
  have k0 := hx0.c0
  have k1 := hx0.c1
  have k2 := hx0.c2
  have k3 := hx0.c3
  clear hP hG hp hr
  have hn0 : decide ((n : Int) < 0) = false := decide_eq_false (by omega)
  have hn1 : decide (2000 < (n : Int)) = false := decide_eq_false (by omega)
  have hn3 : (0 : Int) < (n : Int) + 1 := by omega
  unfold stA stNew wErr at q1
  go_enter Tryd.func19, Tryd.ntmps19
  go_wp2_with (go_at_call 10; refine q1.mono ?_; rintro e w1 ⟨kb, rfl, b1, q2⟩)
  refine wp_loop_rounds 1 ?_
  rw [rounds_succ]
  go_wp2_with (go_at_call 12; refine q2.mono ?_; rintro e w2 ⟨rfl, b2⟩)
  go_ret2
  refine ⟨rfl, ?_⟩
  have hb := b1.trans (b2.mono b1.size)
  have hs := hb.size
  repeat' first | exact hb | refine Below.drew ?_ | refine Below.alloc ?_ (by first | omega | (simp; omega)) _ | refine Below.setCell ?_ (by first | omega | (simp; omega)) _
set_option maxRecDepth 100000 in
set_option maxHeartbeats 8000000 in
theorem srun_ok {G : World → Prop} (C : KerC G) (p : PD) (vc vs vw : Value) (n r : Nat) (W : World) (hG : G W) (hP : Pln W vc vs vw p) (hp : plchk p = 0) (hn : n ≤ 2000) (hr : r < p.code.length) :
    Calls Tryd.prog 19 #[plV vc p.ticks vs vw, .int .i64 n, .int .i64 r] W fun e w' => ∃ v, e = .returned (.tuple #[v, .nilIface]) ∧ StL w' v (statesK p n r) ∧ Below W.heap.size W w' := by
  obtain ⟨jj, hj, hy0, hy1, hy2⟩ := info_parts infoSt
  obtain ⟨ca, cc, rfl⟩ := hP.code.form
  obtain ⟨sa, sc, rfl⟩ := hP.spans.form
  obtain ⟨wa, wc', rfl⟩ := hP.wires.form
  have hx0 := Bx.first W (.slice ca p.code.length cc) p.ticks (.slice sa p.spans.length sc) (.slice wa p.wires.length wc')
  have HG : Hid (G (W.alloc (.cells #[.slice ca p.code.length cc, .int .i64 p.ticks, .slice sa p.spans.length sc, .slice wa p.wires.length wc'] 31))) := C.all _ _ hG hx0.below
  have hA := hx0.below
  have HN : Hid (Calls Tryd.prog 10 #[.agg #[.slice ca p.code.length cc, .int .i64 p.ticks, .slice sa p.spans.length sc, .slice wa p.wires.length wc']] (W.alloc (.cells #[.slice ca p.code.length cc, .int .i64 p.ticks, .slice sa p.spans.length sc, .slice wa p.wires.length wc'] 31)) fun e w' => ∃ kb F, e = .returned (.tuple #[.pointer (some ⟨kb, 0, none⟩), .nilIface]) ∧ C.K (W.alloc (.cells #[.slice ca p.code.length cc, .int .i64 p.ticks, .slice sa p.spans.length sc, .slice wa p.wires.length wc'] 31)) w' p (.slice ca p.code.length cc) (.slice sa p.spans.length sc) (.slice wa p.wires.length wc') (newK p) kb F) := C.new p _ _ _ _ HG.out (hP.all hx0.below) hp
  unfold plV
  have k0 := hx0.c0
  have k1 := hx0.c1
  have k2 := hx0.c2
  have k3 := hx0.c3
  have HGs : Hid (∀ t, noRoom (kT p t) r = false ∧ roomK (kT p t) r = (kT p t).rooms.getD r stNew) := fun t => by
    have hl : (kT p t).rooms.length = p.code.length := (kT_ok hp t).rl
    have hno : noRoom (kT p t) r = false := by
      unfold noRoom
      rw [hl, Bool.or_eq_false_iff]
      exact ⟨decide_eq_false (by omega), decide_eq_false (by omega)⟩
    refine ⟨hno, ?_⟩
    unfold roomK
    rw [if_neg (by rw [hno]; decide), Int.toNat_natCast]
  clear hP hG
  have hn0 : decide ((n : Int) < 0) = false := decide_eq_false (by omega)
  have hn1 : decide (2000 < (n : Int)) = false := decide_eq_false (by omega)
  go_enter Tryd.func19, Tryd.ntmps19
  go_wp2_with (go_at_call 10; refine HN.out.mono ?_; rintro e w1 ⟨kb, F, rfl, hK⟩)
  clear HN
  generalize W.alloc (.cells #[.slice ca p.code.length cc, .int .i64 p.ticks, .slice sa p.spans.length sc, .slice wa p.wires.length wc'] 31) = W0 at *
  go_loopw [10, 30] (fun v i wr => ∃ (t : Nat) (F : List Nat), t ≤ n + 1 ∧ i = .int .i64 t ∧ SRn C W0 wr p (.slice ca p.code.length cc) (.slice sa p.spans.length sc) (.slice wa p.wires.length wc') kb w1.heap.size r t v F) (fun _ i _ => n + 1 - (intOf i).toNat)
  case atStart => exact ⟨0, F, Nat.zero_le _, rfl, hK, World.ownsRow_nil _ _ _ _, fun g hg => (by cases hg), (C.since hK).size, Nat.le_refl _⟩
  case round =>
    clear hK
    obtain ⟨t, F', htn, rfl, hst⟩ := hrel
    obtain ⟨vo, vn, vk, rfl⟩ := own_form hst.own
    have hbw := C.since hst.K
    by_cases htl : t < n + 1
    · have hti : (t : Int) < (n : Int) + 1 := by omega
      obtain ⟨hno, hrk⟩ := HGs.out t
      obtain ⟨s, hs⟩ : ∃ s, (kT p t).rooms.getD r stNew = s := ⟨_, rfl⟩
      have HS : Hid ((kT p t).rooms.getD r stNew = s) := hs
      have hS := C.state r hst.K (kT_ok hp t) hp
      rw [hno, hrk, hs] at hS
      have HT : Hid (Calls Tryd.prog 12 #[.pointer (some ⟨kb, 0, none⟩), .int .i64 r] wr fun e w2 => e = .returned (.tuple #[.agg #[.int .i64 s.p, .int .i64 (s.c 0), .int .i64 (s.c 1), .int .i64 (s.c 2), .int .i64 (s.c 3), .int .i64 (s.c 4), .int .i64 (s.c 5), .bool s.f], .nilIface]) ∧ Below wr.heap.size wr w2) := hS
      have HR : Hid (SRn C W0 wr p (.slice ca p.code.length cc) (.slice sa p.spans.length sc) (.slice wa p.wires.length wc') kb w1.heap.size r t (.slice vo vn vk) F') := hst
      have hown0 := hst.own
      have hB2 := hst.B2
      clear hS hs hst hno hrk
      go_upto_region 9 with fail
      go_cut [11, 12, 30] from 30 to 47 (fun s11 s12 s30 wx => s12 = .nilIface ∧ s30 = .int .i64 t ∧ ∃ g, s11 = .pointer (some ⟨g, 0, none⟩) ∧ StC wx g 0 s ∧ Below wr.heap.size wr wx)
      case first =>
        go_wp2_with (go_at_call 12; refine HT.out.mono ?_; rintro e w2 ⟨rfl, b2⟩)
        go_meet
        case rel =>
          refine ⟨rfl, rfl, w2.heap.size, rfl, ?_, ?_⟩
          · constructor <;> simp [go_sem]
          · have hs2 := b2.size
            repeat' first | exact b2 | refine Below.drew ?_ | refine Below.alloc ?_ (by first | omega | (simp; omega)) _ | refine Below.setCell ?_ (by first | omega | (simp; omega)) _
      case rest =>
        obtain ⟨rfl, rfl, g, rfl, hsc, hbc⟩ := hcut
        obtain ⟨q0, q1, q2, q3, q4, q5, q6, q7⟩ := hsc
        have own3 := own_block hown0 (fun k hk => hbc.block k (hown0.lt k hk).2)
        have hsz := hbc.size
        clear HT hown0
        go_wp2_with (at_builtin; refine wpList_append_at _ rfl _ _ 54 rfl w1.heap.size 48 jj _ 8 64 Tryd.underlying54 hj hy0 hy1 hy2 rfl (by decide) _ _ _ rfl (own3.alloc _) ⟨wc.heap.size, 0, none⟩ 1 1 [.int .i64 s.p, .int .i64 (s.c 0), .int .i64 (s.c 1), .int .i64 (s.c 2), .int .i64 (s.c 3), .int .i64 (s.c 4), .int .i64 (s.c 5), .bool s.f] rfl rfl ?c1A ?c2A ?c3A ?c4A ?c5A ?_)
        try (case c1A => exact st_new rfl s _)
        case c2A => first | exact st_one s | exact ⟨rfl, rfl, rfl, rfl, rfl, rfl, rfl, rfl⟩
        case c3A => unfold maxLen; omega
        case c4A => omega
        case c5A => first | omega | (simp; omega)
        intro v1 w8 own8 hg8 hnw8
        have hb3 : Below wr.heap.size wr (wc.alloc (.cells #[.int .i64 s.p, .int .i64 (s.c 0), .int .i64 (s.c 1), .int .i64 (s.c 2), .int .i64 (s.c 3), .int .i64 (s.c 4), .int .i64 (s.c 5), .bool s.f] 48)) := hbc.alloc hbc.size _
        have HQ : Hid (Calls Tryd.prog 11 #[.pointer (some ⟨kb, 0, none⟩)] w8 fun e w' => ∃ a b c d, e = .returned (.agg #[.int .i64 a, .int .i64 b, .int .i64 c, .int .i64 d]) ∧ ∃ F', SRn C W0 w' p (.slice ca p.code.length cc) (.slice sa p.spans.length sc) (.slice wa p.wires.length wc') kb w1.heap.size r (t + 1) v1 F') := HR.out.more HS.out hb3 hg8 own8 (fun g hg => by have := hnw8 g hg; simpa using this) HG.out hp (by omega)
        obtain ⟨g8, cap8, rfl⟩ := own_succ own8
        clear own8 hg8 hnw8 own3 q0 q1 q2 q3 q4 q5 q6 q7 hb3
        go_wp2_with (go_at_call 11; refine HQ.out.mono ?_; rintro e w9 ⟨ea, eb, ec, ed, rfl, F9, hst9⟩)
        go_roundw
        case rel => exact ⟨t + 1, F9, by omega, by go_num, hst9⟩
        case measure => simp [intOf]; omega
    · obtain rfl : t = n + 1 := by omega
      have hti : decide (((n + 1 : Nat) : Int) < (n : Int) + 1) = false := decide_eq_false (by omega)
      have HS : Hid (StL wr (.slice vo vn vk) (statesK p n r)) := StL.own (by rw [statesK_len]; exact hst.own)
      have HB' : Hid (Below W.heap.size W wr) := hA.trans (hbw.mono hA.size)
      clear hst
      go_wp2
      go_ret2
      exact ⟨_, rfl, HS.out, HB'.out⟩
/-- Run does what the laws of sight ask of it. -/
theorem sgt_run {G : World → Prop} (C : KerC G) : SgtRun G := fun p vc vs vw n r W hG hP => by
  by_cases hp : plchk p = 0
  · by_cases hn : n < 0 ∨ 2000 < n
    · have he : runE p n r = 1 := by
        unfold runE
        rw [if_pos hp, if_pos (by omega)]
      rw [he]
      refine (srun_n C p vc vs vw n r W hG hP hp hn).mono ?_
      rintro e w' ⟨rfl, hb⟩
      exact ⟨_, rfl, Or.inl ⟨rfl, _, _, rfl⟩, hb⟩
    · obtain ⟨n, rfl⟩ : ∃ m : Nat, n = m := ⟨n.toNat, by omega⟩
      by_cases hr : r < 0 ∨ (p.code.length : Int) ≤ r
      · have he : runE p n r = 1 := by
          unfold runE
          rw [if_pos hp, if_pos (by omega)]
        rw [he]
        refine (srun_room C p vc vs vw n r W hG hP hp (by omega) hr).mono ?_
        rintro e w' ⟨rfl, hb⟩
        exact ⟨_, rfl, Or.inl ⟨rfl, _, _, rfl⟩, hb⟩
      · obtain ⟨r, rfl⟩ : ∃ m : Nat, r = m := ⟨r.toNat, by omega⟩
        have he : runE p n r = 0 := by
          unfold runE
          rw [if_pos hp, if_neg (by omega)]
        rw [he, if_pos rfl, Int.toNat_natCast, Int.toNat_natCast]
        exact srun_ok C p vc vs vw n r W hG hP hp (by omega) (by omega)
  · have he : runE p n r = plchk p := by
      unfold runE
      rw [if_neg hp]
    rw [he, if_neg hp]
    refine (srun_wrong C p vc vs vw n r W hG hP hp).mono ?_
    rintro e w' ⟨rfl, hb⟩
    exact ⟨_, rfl, Or.inl ⟨rfl, _, _, rfl⟩, hb⟩
end Go.Proofs.YtfconbblnmbnpadDoor
namespace Go.Proofs.YtfconbblnmbnpadDoor
open Go.RowKit

/-- Do two states look the same? -/
def sameS (s t : St) : Bool := decide (s.p = t.p) && (decide (s.c 0 = t.c 0) && (decide (s.c 1 = t.c 1) && (decide (s.c 2 = t.c 2) && (decide (s.c 3 = t.c 3) && (decide (s.c 4 = t.c 4) && (decide (s.c 5 = t.c 5) && (s.f == t.f)))))))
theorem sameS_iff {s t : St} : sameS s t = true ↔ StSame s t := by
  unfold sameS
  simp only [Bool.and_eq_true, decide_eq_true_eq, beq_iff_eq]
  constructor
  · rintro ⟨hp, h0, h1, h2, h3, h4, h5, hf⟩
    refine ⟨hp, fun i hi => ?_, hf⟩
    match i, hi with
    | 0, _ => exact h0
    | 1, _ => exact h1
    | 2, _ => exact h2
    | 3, _ => exact h3
    | 4, _ => exact h4
    | 5, _ => exact h5
  · intro h
    exact ⟨h.p, h.c 0 (by omega), h.c 1 (by omega), h.c 2 (by omega), h.c 3 (by omega), h.c 4 (by omega), h.c 5 (by omega), h.f⟩
theorem eqIn_six2 (a b c d e f a' b' c' d' e' f' : Int) (w : World) : (Op.equalIn 9999 46 (.agg #[.int .i64 a, .int .i64 b, .int .i64 c, .int .i64 d, .int .i64 e, .int .i64 f]) (.agg #[.int .i64 a', .int .i64 b', .int .i64 c', .int .i64 d', .int .i64 e', .int .i64 f'])).run Tryd.prog w = .ok (decide (a = a') && (decide (b = b') && (decide (c = c') && (decide (d = d') && (decide (e = e') && decide (f = f')))))) w := by
  obtain ⟨n, hn⟩ : ∃ n, n + 1 = 9999 := ⟨9998, rfl⟩
  obtain ⟨m, hm⟩ : ∃ m, n = m + 1 := ⟨9997, by omega⟩
  rw [← hn]
  clear hn
  have hq : ∀ (x y : Int) (w : World), (Op.equalIn n 3 (.int .i64 x) (.int .i64 y)).run Tryd.prog w = .ok (decide (x = y)) w := fun x y w => by
    rw [hm, run_equalIn_int w m 3 .i64 .i64 x y Tryd.underlying3]
    by_cases h : x = y <;> simp [h]
  clear hm
  simp only [Op.equalIn, Sem.run_bind, run_underlying Tryd.underlying46, Result.andThen_ok]
  by_cases h0 : a = a'
  · by_cases h1 : b = b'
    · by_cases h2 : c = c'
      · by_cases h3 : d = d'
        · by_cases h4 : e = e'
          · by_cases h5 : f = f'
            · simp [List.range', go_sem, hq, h0, h1, h2, h3, h4, h5]
            · simp [List.range', go_sem, hq, h0, h1, h2, h3, h4, h5]
          · simp [List.range', go_sem, hq, h0, h1, h2, h3, h4]
        · simp [List.range', go_sem, hq, h0, h1, h2, h3]
      · simp [List.range', go_sem, hq, h0, h1, h2]
    · simp [List.range', go_sem, hq, h0, h1]
  · simp [List.range', go_sem, hq, h0]
theorem eqIn_st2 (s t : St) (w : World) : (Op.equalIn 10000 48 (.agg #[.int .i64 s.p, .int .i64 (s.c 0), .int .i64 (s.c 1), .int .i64 (s.c 2), .int .i64 (s.c 3), .int .i64 (s.c 4), .int .i64 (s.c 5), .bool s.f]) (.agg #[.int .i64 t.p, .int .i64 (t.c 0), .int .i64 (t.c 1), .int .i64 (t.c 2), .int .i64 (t.c 3), .int .i64 (t.c 4), .int .i64 (t.c 5), .bool t.f])).run Tryd.prog w = .ok (sameS s t) w := by
  rw [run_equalIn_agg _ _ _ _ _ fieldsSt stoodSt, fieldsStIs]
  unfold sameS
  by_cases h0 : s.p = t.p
  · cases hsix : (decide (s.c 0 = t.c 0) && (decide (s.c 1 = t.c 1) && (decide (s.c 2 = t.c 2) && (decide (s.c 3 = t.c 3) && (decide (s.c 4 = t.c 4) && decide (s.c 5 = t.c 5)))))) with
    | true =>
      have e := hsix
      simp only [Bool.and_eq_true, decide_eq_true_eq] at e
      obtain ⟨e0, e1, e2, e3, e4, e5⟩ := e
      simp [go_sem, Tryd.underlying3, Tryd.underlying4, eqIn_six2, h0, e0, e1, e2, e3, e4, e5]
      by_cases hf : s.f = t.f <;> simp [hf]
    | false =>
      have e : (decide (s.c 0 = t.c 0) && (decide (s.c 1 = t.c 1) && (decide (s.c 2 = t.c 2) && (decide (s.c 3 = t.c 3) && (decide (s.c 4 = t.c 4) && (decide (s.c 5 = t.c 5) && (s.f == t.f))))))) = false := by
        revert hsix
        cases decide (s.c 0 = t.c 0) <;> cases decide (s.c 1 = t.c 1) <;> cases decide (s.c 2 = t.c 2) <;> cases decide (s.c 3 = t.c 3) <;> cases decide (s.c 4 = t.c 4) <;> cases decide (s.c 5 = t.c 5) <;> simp
      rw [e]
      simp [go_sem, Tryd.underlying3, Tryd.underlying4, eqIn_six2, h0, hsix]
  · simp [go_sem, Tryd.underlying3, Tryd.underlying4, h0]
theorem neq_st2 (s t : St) (w : World) : (binOp .neq 48 (.agg #[.int .i64 s.p, .int .i64 (s.c 0), .int .i64 (s.c 1), .int .i64 (s.c 2), .int .i64 (s.c 3), .int .i64 (s.c 4), .int .i64 (s.c 5), .bool s.f]) (.agg #[.int .i64 t.p, .int .i64 (t.c 0), .int .i64 (t.c 1), .int .i64 (t.c 2), .int .i64 (t.c 3), .int .i64 (t.c 4), .int .i64 (t.c 5), .bool t.f])).run Tryd.prog w = .ok (.bool (!(sameS s t))) w := by
  rw [run_neq_struct, eqIn_st2]
  rfl
end Go.Proofs.YtfconbblnmbnpadDoor
namespace Go.Proofs.YtfconbblnmbnpadDoor
open Go.RowKit

/-- The law's own plans: one room that rests; one that sets a cell. -/
def toyR : PD := ⟨[[(10, 0, 0)]], 1, [], []⟩
def toyS : PD := ⟨[[(1, 1, 4)]], 1, [(0, 1, 0)], []⟩
theorem toyR_ok : plchk toyR = 0 := by decide +kernel
theorem toyR_room : noRoom (newK toyR) 0 = false := by decide +kernel
theorem toyR_sees : seesK (newK toyR) 0 = [] := by decide +kernel
theorem toyS_run : runE toyS 1 0 = 0 := by decide +kernel
theorem toyS_two : ((statesK toyS 1 0)[1]?.map fun s => s.c 1) = some 4 := by decide +kernel
theorem toyR_pln (W : World) (n : Nat) (hn : n = W.heap.size) : Pln ((W.alloc (.cells #[.int .i64 10, .int .i64 0, .int .i64 0] 25)).alloc (.cells #[.slice (some ⟨n, 0, none⟩) 1 1] 26)) (.slice (some ⟨n + 1, 0, none⟩) 1 1) (.slice none 0 0) (.slice none 0 0) toyR := by
  subst hn
  refine ⟨Or.inr ⟨_, 0, 1, rfl, Nat.le_refl _, by simp, fun i c hi => ?_⟩, Or.inl ⟨rfl, _, _, rfl⟩, Or.inl ⟨rfl, _, _, rfl⟩⟩
  match i, hi with
  | 0, hi =>
    simp [toyR] at hi
    subst hi
    refine ⟨.slice (some ⟨W.heap.size, 0, none⟩) 1 1, by simp [go_sem], Or.inr ⟨W.heap.size, 0, 1, rfl, by simp; omega, fun j o ho => ?_⟩⟩
    match j, ho with
    | 0, ho => simp at ho; subst ho; simp [go_sem]
    | j + 1, ho => simp at ho
  | i + 1, hi => simp [toyR] at hi
theorem toyS_pln (W : World) (n : Nat) (hn : n = W.heap.size) : Pln (((W.alloc (.cells #[.int .i64 1, .int .i64 1, .int .i64 4] 25)).alloc (.cells #[.slice (some ⟨n, 0, none⟩) 1 1] 26)).alloc (.cells #[.int .i64 0, .int .i64 1, .int .i64 0] 42)) (.slice (some ⟨n + 1, 0, none⟩) 1 1) (.slice (some ⟨n + 2, 0, none⟩) 1 1) (.slice none 0 0) toyS := by
  subst hn
  refine ⟨Or.inr ⟨_, 0, 1, rfl, Nat.le_refl _, by simp, fun i c hi => ?_⟩, Or.inr ⟨_, 0, 1, rfl, Nat.le_refl _, by simp, fun i s hi => ?_⟩, Or.inl ⟨rfl, _, _, rfl⟩⟩
  · match i, hi with
    | 0, hi =>
      simp [toyS] at hi
      subst hi
      refine ⟨.slice (some ⟨W.heap.size, 0, none⟩) 1 1, by simp [go_sem], Or.inr ⟨W.heap.size, 0, 1, rfl, by simp; omega, fun j o ho => ?_⟩⟩
      match j, ho with
      | 0, ho => simp at ho; subst ho; simp [go_sem]
      | j + 1, ho => simp at ho
    | i + 1, hi => simp [toyS] at hi
  · match i, hi with
    | 0, hi => simp [toyS] at hi; subst hi; simp [go_sem]
    | i + 1, hi => simp [toyS] at hi
theorem sees_small {p : PD} {k : KD} (hk : KOk p k) (hp : plchk p = 0) (r : Int) : ShortH (seesK k r) ∧ (seesK k r).length ≤ 1000000 := by
  refine ⟨fun x hx => ?_, ?_⟩
  · unfold seesK at hx
    obtain ⟨l, hl, rfl⟩ := List.mem_map.1 hx
    have hl2 := (List.mem_filter.1 hl).1
    obtain ⟨i, hi⟩ := List.mem_iff_getElem?.1 hl2
    have hlt := (List.getElem?_eq_some_iff.1 hi).1
    have hx : p.wires[i]? = some (p.wires[i]'(by rw [← hk.ll]; exact hlt)) := List.getElem?_eq_getElem _
    have hlo := hk.lines i l _ hi hx
    rcases wchk_kind ((wschk_ok (plchk_zero hp).2.2.2.1).2 _ (List.mem_of_getElem? hx)) with ⟨h1, _⟩ | ⟨h1, h2, h3⟩
    · have := hlo.one h1
      show l.xs.length ≤ _
      omega
    · have := hlo.deep h1
      show l.xs.length ≤ _
      omega
  · unfold seesK
    rw [List.length_map]
    have h1 := List.length_filter_le (atR r) k.lines
    have h2 := hk.ll
    have h3 := (wschk_ok (plchk_zero hp).2.2.2.1).1
    omega
/-- The law's own first part: two small plans. -/
structure Toys {G : World → Prop} (C : KerC G) (w : World) : Prop where
  new : ∀ W n, Below w.heap.size w W → n = W.heap.size → Calls Tryd.prog 10 #[.agg #[.slice (some ⟨n + 1, 0, none⟩) 1 1, .int .i64 1, .slice none 0 0, .slice none 0 0]] ((W.alloc (.cells #[.int .i64 10, .int .i64 0, .int .i64 0] 25)).alloc (.cells #[.slice (some ⟨n, 0, none⟩) 1 1] 26)) fun e w2 => ∃ kb, e = .returned (.tuple #[.pointer (some ⟨kb, 0, none⟩), .nilIface]) ∧ Below W.heap.size W w2 ∧ ∀ m, m = w2.heap.size →
    Calls Tryd.prog 18 #[.pointer (some ⟨kb, 0, none⟩), .agg #[.slice (some ⟨m + 1, 0, none⟩) 1 1, .int .i64 1, .slice none 0 0, .slice none 0 0], .int .i64 0] ((w2.alloc (.cells #[.int .i64 10, .int .i64 0, .int .i64 0] 25)).alloc (.cells #[.slice (some ⟨m, 0, none⟩) 1 1] 26)) fun e w3 => ∃ (s : St) (ao : Option Addr) (cap : Nat), e = .returned (.tuple #[.agg #[.int .i64 s.p, .int .i64 (s.c 0), .int .i64 (s.c 1), .int .i64 (s.c 2), .int .i64 (s.c 3), .int .i64 (s.c 4), .int .i64 (s.c 5), .bool s.f], .slice ao 0 cap, .nilIface]) ∧ Below w2.heap.size w2 w3
  run : ∀ W n, Below w.heap.size w W → n = W.heap.size → Calls Tryd.prog 19 #[.agg #[.slice (some ⟨n + 1, 0, none⟩) 1 1, .int .i64 1, .slice (some ⟨n + 2, 0, none⟩) 1 1, .slice none 0 0], .int .i64 1, .int .i64 0] (((W.alloc (.cells #[.int .i64 1, .int .i64 1, .int .i64 4] 25)).alloc (.cells #[.slice (some ⟨n, 0, none⟩) 1 1] 26)).alloc (.cells #[.int .i64 0, .int .i64 1, .int .i64 0] 42)) fun e w2 => ∃ b off cap, e = .returned (.tuple #[.slice (some ⟨b, off, none⟩) 2 cap, .nilIface]) ∧ w2.cell? ⟨b, off + 10, none⟩ = some (.int .i64 4) ∧ Below W.heap.size W w2
theorem toys_of {G : World → Prop} (C : KerC G) (R : SgtRun G) (O : SgtOf C) (w : World) (hG : G w) : Toys C w := by
  refine ⟨fun W n hb hn => ?_, fun W n hb hn => ?_⟩
  · have hA : Below W.heap.size W ((W.alloc (.cells #[.int .i64 10, .int .i64 0, .int .i64 0] 25)).alloc (.cells #[.slice (some ⟨n, 0, none⟩) 1 1] 26)) := ((Below.refl _ _).alloc (Nat.le_refl _) _).alloc (by simp) _
    have hGW := C.all _ _ (C.all _ _ hG hb) hA
    refine (C.new toyR _ _ _ _ hGW (toyR_pln W n hn) toyR_ok).mono ?_
    rintro e w2 ⟨kb, F, rfl, hK⟩
    have hb2 := hA.trans ((C.since hK).mono hA.size)
    refine ⟨kb, rfl, hb2, fun m hm => ?_⟩
    have hB : Below w2.heap.size w2 ((w2.alloc (.cells #[.int .i64 10, .int .i64 0, .int .i64 0] 25)).alloc (.cells #[.slice (some ⟨m, 0, none⟩) 1 1] 26)) := ((Below.refl _ _).alloc (Nat.le_refl _) _).alloc (by simp) _
    have h := O (.slice (some ⟨m + 1, 0, none⟩) 1 1) (.slice none 0 0) (.slice none 0 0) 0 hGW (C.frame hK (KTouch.of (M := []) hB) (by simp)) (new_ok toyR_ok) toyR_ok (toyR_pln w2 m hm)
    refine h.mono ?_
    rintro e w3 ⟨v, rfl, h1, h2⟩
    rw [toyR_room, if_neg (by decide), toyR_sees] at h1
    obtain ⟨ao, cap, rfl⟩ := h1.form
    rw [toyR_room]
    exact ⟨_, ao, cap, rfl, hB.trans (h2.mono hB.size)⟩
  · have hA : Below W.heap.size W (((W.alloc (.cells #[.int .i64 1, .int .i64 1, .int .i64 4] 25)).alloc (.cells #[.slice (some ⟨n, 0, none⟩) 1 1] 26)).alloc (.cells #[.int .i64 0, .int .i64 1, .int .i64 0] 42)) := (((Below.refl _ _).alloc (Nat.le_refl _) _).alloc (by simp) _).alloc (by simp; omega) _
    have h := R toyS _ _ _ 1 0 _ (C.all _ _ (C.all _ _ hG hb) hA) (toyS_pln W n hn)
    rw [toyS_run, if_pos rfl] at h
    refine h.mono ?_
    rintro e w2 ⟨v, rfl, h1, h2⟩
    have hl : (statesK toyS (Int.toNat 1) (Int.toNat 0)).length = 2 := statesK_len _ _ _
    rcases h1 with ⟨h0, _⟩ | ⟨b, off, cap, h3, _, _, h4⟩
    · rw [h0] at hl
      cases hl
    · obtain ⟨s, hs, hs1⟩ := Option.map_eq_some_iff.1 toyS_two
      have h5 := (h4 1 s hs).c1
      rw [hs1] at h5
      exact ⟨b, off, cap, by rw [h3, hl]; rfl, h5, hA.trans (h2.mono hA.size)⟩
set_option maxRecDepth 100000 in
set_option maxHeartbeats 16000000 in
theorem ssame_of {G : World → Prop} (C : KerC G) (CP : KerPoke C) (R : SgtRun G) (O : SgtOf C) (p : PD) (vc vs vw : Value) (r n cell v : Int) (w : World) (hG : G w) (hP : Pln w vc vs vw p) :
    Calls Tryd.prog 6 #[plV vc p.ticks vs vw, .int .i64 r, .int .i64 n, .int .i64 cell, .int .i64 v] w fun e w' => e = .returned (.bool true) ∧ Below w.heap.size w w' := by
  obtain ⟨ca, cc, rfl⟩ := hP.code.form
  obtain ⟨sa, sc, rfl⟩ := hP.spans.form
  obtain ⟨wa, wc', rfl⟩ := hP.wires.form
  have hx0 := Bx.first w (.slice ca p.code.length cc) p.ticks (.slice sa p.spans.length sc) (.slice wa p.wires.length wc')
  have HP : Hid (Pln w (.slice ca p.code.length cc) (.slice sa p.spans.length sc) (.slice wa p.wires.length wc') p) := hP
  have HG : Hid (∀ W, Below w.heap.size w W → G W) := fun W hb => C.all w W hG hb
  have HT : Hid (Toys C w) := toys_of C R O w hG
  unfold plV
  clear hP hG
  go_enter Tryd.func6, Tryd.ntmps6
  go_upto_region 4 with (go_at_call 10; refine (HT.out.new (w.alloc (.cells #[.slice ca p.code.length cc, .int .i64 p.ticks, .slice sa p.spans.length sc, .slice wa p.wires.length wc'] 31)) (w.heap.size + 1) hx0.below (by simp)).mono ?_; rintro e w2 ⟨kb1, rfl, b2, q2⟩)
  have hx2 : Bx w w2 (.slice ca p.code.length cc) p.ticks (.slice sa p.spans.length sc) (.slice wa p.wires.length wc') := hx0.step b2
  clear b2
  go_upto_region 5 with (go_at_call 18; refine (q2 w2.heap.size rfl).mono ?_; clear q2; rintro e w3 ⟨s0, ao3, cap3, rfl, b3⟩)
  have hx3 : Bx w w3 (.slice ca p.code.length cc) p.ticks (.slice sa p.spans.length sc) (.slice wa p.wires.length wc') := hx2.step b3
  have hA3 : Below w3.heap.size w3 (w3.alloc (.cells #[.int .i64 s0.p, .int .i64 (s0.c 0), .int .i64 (s0.c 1), .int .i64 (s0.c 2), .int .i64 (s0.c 3), .int .i64 (s0.c 4), .int .i64 (s0.c 5), .bool s0.f] 48)) := (Below.refl _ _).alloc (Nat.le_refl _) _
  have hx4 := hx3.step hA3
  clear b3 hx2 hx3 hA3
  generalize w3.alloc (.cells #[.int .i64 s0.p, .int .i64 (s0.c 0), .int .i64 (s0.c 1), .int .i64 (s0.c 2), .int .i64 (s0.c 3), .int .i64 (s0.c 4), .int .i64 (s0.c 5), .bool s0.f] 48) = w4 at *
  go_upto_region 8 with (go_at_call 19; refine (HT.out.run w4 w4.heap.size hx4.below rfl).mono ?_; rintro e w5 ⟨b5, off5, cap5, rfl, hc5, bb5⟩)
  have hx5 := hx4.step bb5
  clear bb5 hx4 hc5
  have k0 := hx5.c0
  have k1 := hx5.c1
  have k2 := hx5.c2
  have k3 := hx5.c3
  by_cases hp : plchk p = 0
  case neg =>
    have HN : Hid (∀ W, Below w.heap.size w W → Calls Tryd.prog 10 #[.agg #[.slice ca p.code.length cc, .int .i64 p.ticks, .slice sa p.spans.length sc, .slice wa p.wires.length wc']] W fun e w' => ∃ x, e = .returned (.tuple #[.pointer x, .iface 71 (.int .i64 (plchk p))]) ∧ Below W.heap.size W w') := fun W hb => by
      have := C.no p _ _ _ W (HG.out W hb) (HP.out.all hb) hp
      rw [wErr_not hp] at this
      exact this
    generalize plchk p = z at HN hp
    go_wp2_with (first
      | (go_at_call 10; refine (HN.out w5 hx5.below).mono ?_; rintro e w6 ⟨x6, rfl, b6⟩; have hx6 := hx5.step b6; clear k0 k1 k2 k3; have k0 := hx6.c0; have k1 := hx6.c1; have k2 := hx6.c2; have k3 := hx6.c3)
      | (go_at_call 10; refine (HN.out w6 hx6.below).mono ?_; rintro e w7 ⟨x7, rfl, b7⟩; have hx7 := hx6.step b7))
    go_ret
    exact ⟨rfl, hx7.below⟩
  have HN : Hid (∀ W, Below w.heap.size w W → Calls Tryd.prog 10 #[.agg #[.slice ca p.code.length cc, .int .i64 p.ticks, .slice sa p.spans.length sc, .slice wa p.wires.length wc']] W fun e w' => ∃ kb F, e = .returned (.tuple #[.pointer (some ⟨kb, 0, none⟩), .nilIface]) ∧ C.K W w' p (.slice ca p.code.length cc) (.slice sa p.spans.length sc) (.slice wa p.wires.length wc') (newK p) kb F) := fun W hb => C.new p _ _ _ W (HG.out W hb) (HP.out.all hb) hp
  go_upto_region 10 with (first
    | (go_at_call 10; refine (HN.out w5 hx5.below).mono ?_; rintro e w6 ⟨kb, F, rfl, hK⟩; have hx6 := hx5.step (C.since hK); clear k0 k1 k2 k3; have k0 := hx6.c0; have k1 := hx6.c1; have k2 := hx6.c2; have k3 := hx6.c3)
    | (go_at_call 10; refine (HN.out w6 hx6.below).mono ?_; rintro e w7 ⟨mb, H, rfl, hM⟩; have hx7 := hx6.step (C.since hM)))
  have hkk := kk_new hp hK hM
  have HG5 : Hid (G w5) := HG.out w5 hx5.below
  have hs5 : w.heap.size + 1 ≤ w5.heap.size := hx5.size
  clear hK hM hx6 hx5 k0 k1 k2 k3 HN
  have k0 := hx7.c0
  by_cases hroom : 0 ≤ r ∧ r < (p.code.length : Int)
  case neg =>
    by_cases h1 : r < 0
    · have h1' : decide (r < 0) = true := decide_eq_true h1
      go_wp2
      go_ret
      exact ⟨rfl, hx7.below⟩
    · have h1' : decide (r < 0) = false := decide_eq_false h1
      have h2 : (p.code.length : Int) ≤ r := by omega
      go_wp2
      go_ret
      exact ⟨rfl, hx7.below⟩
  obtain ⟨rn, rfl⟩ : ∃ q : Nat, r = q := ⟨r.toNat, by omega⟩
  have hrn : rn < p.code.length := by omega
  have hn1 : decide ((rn : Int) < 0) = false := decide_eq_false (by omega)
  have hn2 : decide ((p.code.length : Int) ≤ (rn : Int)) = false := decide_eq_false (by omega)
  have hn3 : decide (p.code.length ≤ rn) = false := decide_eq_false (by omega)
  have hc5 := (plchk_zero hp).1
  have hl0 : (p.code.length : Int) ≠ 0 := by omega
  have hadd : (rn : Int) + 1 ≤ 9223372036854775807 := by omega
  go_upto_region 12 with fail
  go_cut [22] from 113 to 118 (fun s22 wx => s22 = .int .i64 (((rn + 1) % p.code.length : Nat) : Int) ∧ wx = w7)
  case first =>
    go_wp2_with fail
    go_meet
    case rel => exact ⟨by simp, rfl⟩
  case rest =>
  obtain ⟨rfl, hwx⟩ := hcut
  rw [hwx]
  clear hwx
  obtain ⟨on, hon⟩ : ∃ q, (rn + 1) % p.code.length = q := ⟨_, rfl⟩
  rw [hon]
  clear hon
  by_cases hor : on = rn
  case pos =>
    subst hor
    go_wp2
    go_ret
    exact ⟨rfl, hx7.below⟩
  have hor' : ((on : Int) == (rn : Int)) = false := beq_eq_false_iff_ne.2 (by omega)
  have hor2 : (on == rn) = false := by simpa using hor
  have HPk : Hid (Calls Tryd.prog 20 #[.pointer (some ⟨mb, 0, none⟩), .int .i64 on, .int .i64 cell, .int .i64 v] w7 fun e w' => e = .returned (wErr (pokeN (newK p) on cell v)) ∧ ∃ H', KK C w5 w' p (.slice ca p.code.length cc) (.slice sa p.spans.length sc) (.slice wa p.wires.length wc') (newK p) (pokeK (newK p) on cell v) kb mb F H' ∧ KTouch H w7 w' ∧ ∀ g ∈ F ++ H', g ∈ F ++ H ∨ w7.heap.size ≤ g) := kk_poke CP hp on cell v hkk
  have hHge : ∀ g ∈ H, w.heap.size + 1 ≤ g := fun g hg => by
    have := (C.ge hkk.M g hg).1
    omega
  cases hpb : pokeB (newK p) on cell v with
  | true =>
    have hpn : pokeN (newK p) on cell v = 1 := by unfold pokeN; rw [hpb, if_pos rfl]
    rw [hpn] at HPk
    have HPk' : Hid (Calls Tryd.prog 20 #[.pointer (some ⟨mb, 0, none⟩), .int .i64 on, .int .i64 cell, .int .i64 v] w7 fun e w' => e = .returned (.iface 71 (.int .i64 1)) ∧ KTouch H w7 w') := HPk.out.mono (by
      rintro e w' ⟨rfl, H', _, h2, _⟩
      exact ⟨rfl, h2⟩)
    clear HPk hkk hpn hpb
    go_wp2_with (go_at_call 20; refine HPk'.out.mono ?_; rintro e w8 ⟨rfl, tk8⟩)
    go_ret
    exact ⟨rfl, (Below.trans hx7 (tk8.below hHge hx7.size)).mono (Nat.le_succ _) |> fun h => ((Below.refl _ w).alloc (Nat.le_refl _) _).trans h⟩
  | false =>
  have hpn : pokeN (newK p) on cell v = 0 := by unfold pokeN; rw [hpb, if_neg (by decide)]
  rw [hpn] at HPk
  obtain ⟨e1, e2, e3⟩ := poke_other (p := p) (r := rn) (by omega) hpb
  have HPk' : Hid (Calls Tryd.prog 20 #[.pointer (some ⟨mb, 0, none⟩), .int .i64 on, .int .i64 cell, .int .i64 v] w7 fun e w' => e = .returned .nilIface ∧ ∃ m H', KK C w5 w' p (.slice ca p.code.length cc) (.slice sa p.spans.length sc) (.slice wa p.wires.length wc') (newK p) m kb mb F H' ∧ m.time = 0 ∧ StSame (roomK (newK p) rn) (roomK m rn) ∧ seesK (newK p) rn = seesK m rn ∧ Bx w w' (.slice ca p.code.length cc) p.ticks (.slice sa p.spans.length sc) (.slice wa p.wires.length wc')) := HPk.out.mono (by
    rintro e w' ⟨rfl, H', h1, h2, _⟩
    refine ⟨rfl, _, H', h1, by rw [e3]; rfl, ?_, ?_, Below.trans hx7 (h2.below hHge hx7.size)⟩
    · have e4 : roomK (pokeK (newK p) on cell v) rn = roomK (newK p) rn := by
        have hl : (pokeK (newK p) on cell v).rooms.length = (newK p).rooms.length := by rw [h1.ok'.rl, h1.ok.rl]
        unfold roomK noRoom
        rw [hl]
        simp only [Int.toNat_natCast, List.getD, e1]
      rw [e4]
      exact StSame.refl _
    · unfold seesK
      rw [e2])
  clear HPk hkk hpn hpb e1 e2 e3 hHge hn1 hn2 hn3 hadd
  go_upto_region 15 with (go_at_call 20; refine HPk'.out.mono ?_; rintro e w8 ⟨rfl, m8, H8, hkk8, htm8, hsm8, hse8, hx8⟩)
  clear HPk' hx7 k0
  go_wp2
  go_loopw [23] (fun s23 wr => ∃ (i : Nat) (k m : KD) (F H : List Nat), i ≤ 80 ∧ s23 = .int .i64 i ∧ k.time = i ∧ m.time = i ∧ (i = 0 → StSame (roomK k rn) (roomK m rn) ∧ seesK k rn = seesK m rn) ∧ KK C w5 wr p (.slice ca p.code.length cc) (.slice sa p.spans.length sc) (.slice wa p.wires.length wc') k m kb mb F H ∧ Bx w wr (.slice ca p.code.length cc) p.ticks (.slice sa p.spans.length sc) (.slice wa p.wires.length wc')) (fun s _ => 80 - (intOf s).toNat)
  case atStart => exact ⟨0, newK p, m8, F, H8, Nat.zero_le _, rfl, rfl, htm8, fun _ => ⟨hsm8, hse8⟩, hkk8, hx8⟩
  case round =>
  clear hkk8 htm8 hsm8 hse8 hx8
  obtain ⟨i, k, m, F1, H1, hi, rfl, htk, htm, hsame, hkk, hx⟩ := hrel
  by_cases hin : (i : Int) < n
  case neg =>
    have hin' : decide ((i : Int) < n) = false := decide_eq_false hin
    clear hkk hsame
    go_wp2
    go_ret
    exact ⟨rfl, hx.below⟩
  by_cases hi80 : i < 80
  case neg =>
    obtain rfl : i = 80 := by omega
    rw [show ((80 : Nat) : Int) = 80 from rfl] at hin
    clear hkk hsame
    go_wp2
    go_ret
    exact ⟨rfl, hx.below⟩
  have hi8 : (i : Int) < 80 := by omega
  rename World => wA
  have HSm : Hid (i = 0 → StSame (roomK k rn) (roomK m rn) ∧ seesK k rn = seesK m rn) := hsame
  clear hsame
  have hrl : ∀ q : KD, KOk p q → noRoom q rn = false := fun q hq => by
    unfold noRoom
    rw [Bool.or_eq_false_iff, hq.rl]
    exact ⟨decide_eq_false (by omega), decide_eq_false (by omega)⟩
  have HOf : Hid (∀ (W : World) (q : KD) (qb : Nat) (Fq : List Nat), C.K w5 W p (.slice ca p.code.length cc) (.slice sa p.spans.length sc) (.slice wa p.wires.length wc') q qb Fq → KOk p q → Bx w W (.slice ca p.code.length cc) p.ticks (.slice sa p.spans.length sc) (.slice wa p.wires.length wc') → Calls Tryd.prog 18 #[.pointer (some ⟨qb, 0, none⟩), .agg #[.slice ca p.code.length cc, .int .i64 p.ticks, .slice sa p.spans.length sc, .slice wa p.wires.length wc'], .int .i64 rn] W fun e w' => ∃ (s : St) (ao : Option Addr) (l cap : Nat), e = .returned (.tuple #[.agg #[.int .i64 s.p, .int .i64 (s.c 0), .int .i64 (s.c 1), .int .i64 (s.c 2), .int .i64 (s.c 3), .int .i64 (s.c 4), .int .i64 (s.c 5), .bool s.f], .slice ao l cap, .nilIface]) ∧ s = roomK q rn ∧ HdL w' (.slice ao l cap) (seesK q rn) ∧ Below W.heap.size W w') := fun W q qb Fq hK hq hxW => by
    have h1 := O (.slice ca p.code.length cc) (.slice sa p.spans.length sc) (.slice wa p.wires.length wc') rn HG5.out hK hq hp (HP.out.all hxW.below)
    refine h1.mono ?_
    rintro e w' ⟨v, rfl, h2, h3⟩
    rw [hrl q hq, if_neg (by decide)] at h2
    obtain ⟨ao, cap, rfl⟩ := h2.form
    rw [hrl q hq]
    exact ⟨_, _, _, _, rfl, rfl, h2, h3⟩
  have k0 := hx.c0
  have k1 := hx.c1
  have k2 := hx.c2
  have k3 := hx.c3
  obtain ⟨s, hs⟩ : ∃ s, s = roomK k rn := ⟨_, rfl⟩
  obtain ⟨t, ht⟩ : ∃ t, t = roomK m rn := ⟨_, rfl⟩
  have hHOk : ∀ W, Below wA.heap.size wA W → Calls Tryd.prog 18 #[.pointer (some ⟨kb, 0, none⟩), .agg #[.slice ca p.code.length cc, .int .i64 p.ticks, .slice sa p.spans.length sc, .slice wa p.wires.length wc'], .int .i64 rn] W fun e w' => ∃ (ao : Option Addr) (l cap : Nat), e = .returned (.tuple #[.agg #[.int .i64 s.p, .int .i64 (s.c 0), .int .i64 (s.c 1), .int .i64 (s.c 2), .int .i64 (s.c 3), .int .i64 (s.c 4), .int .i64 (s.c 5), .bool s.f], .slice ao l cap, .nilIface]) ∧ HdL w' (.slice ao l cap) (seesK k rn) ∧ Below W.heap.size W w' := fun W hb => by
    refine (HOf.out W k kb F1 (hkk.all hb).K hkk.ok (hx.step hb)).mono ?_
    rintro e w' ⟨s', ao, l, cap, rfl, rfl, h2, h3⟩
    rw [hs]
    exact ⟨_, _, _, rfl, h2, h3⟩
  have hHOm : ∀ W, Below wA.heap.size wA W → Calls Tryd.prog 18 #[.pointer (some ⟨mb, 0, none⟩), .agg #[.slice ca p.code.length cc, .int .i64 p.ticks, .slice sa p.spans.length sc, .slice wa p.wires.length wc'], .int .i64 rn] W fun e w' => ∃ (ao : Option Addr) (l cap : Nat), e = .returned (.tuple #[.agg #[.int .i64 t.p, .int .i64 (t.c 0), .int .i64 (t.c 1), .int .i64 (t.c 2), .int .i64 (t.c 3), .int .i64 (t.c 4), .int .i64 (t.c 5), .bool t.f], .slice ao l cap, .nilIface]) ∧ HdL w' (.slice ao l cap) (seesK m rn) ∧ Below W.heap.size W w' := fun W hb => by
    refine (HOf.out W m mb H1 (hkk.all hb).M hkk.ok' (hx.step hb)).mono ?_
    rintro e w' ⟨s', ao, l, cap, rfl, rfl, h2, h3⟩
    rw [ht]
    exact ⟨_, _, _, rfl, h2, h3⟩
  have HOk : Hid (∀ W, Below wA.heap.size wA W → Calls Tryd.prog 18 #[.pointer (some ⟨kb, 0, none⟩), .agg #[.slice ca p.code.length cc, .int .i64 p.ticks, .slice sa p.spans.length sc, .slice wa p.wires.length wc'], .int .i64 rn] W fun e w' => ∃ (ao : Option Addr) (l cap : Nat), e = .returned (.tuple #[.agg #[.int .i64 s.p, .int .i64 (s.c 0), .int .i64 (s.c 1), .int .i64 (s.c 2), .int .i64 (s.c 3), .int .i64 (s.c 4), .int .i64 (s.c 5), .bool s.f], .slice ao l cap, .nilIface]) ∧ HdL w' (.slice ao l cap) (seesK k rn) ∧ Below W.heap.size W w') := hHOk
  have HOm : Hid (∀ W, Below wA.heap.size wA W → Calls Tryd.prog 18 #[.pointer (some ⟨mb, 0, none⟩), .agg #[.slice ca p.code.length cc, .int .i64 p.ticks, .slice sa p.spans.length sc, .slice wa p.wires.length wc'], .int .i64 rn] W fun e w' => ∃ (ao : Option Addr) (l cap : Nat), e = .returned (.tuple #[.agg #[.int .i64 t.p, .int .i64 (t.c 0), .int .i64 (t.c 1), .int .i64 (t.c 2), .int .i64 (t.c 3), .int .i64 (t.c 4), .int .i64 (t.c 5), .bool t.f], .slice ao l cap, .nilIface]) ∧ HdL w' (.slice ao l cap) (seesK m rn) ∧ Below W.heap.size W w') := hHOm
  have HST : Hid (s = roomK k rn ∧ t = roomK m rn) := ⟨hs, ht⟩
  have HKK : Hid (KK C w5 wA p (.slice ca p.code.length cc) (.slice sa p.spans.length sc) (.slice wa p.wires.length wc') k m kb mb F1 H1) := hkk
  clear hHOk hHOm hs ht hkk
  go_upto_region 19 with (go_at_call 18; refine (HOk.out wA (Below.refl _ _)).mono ?_; rintro e w2 ⟨ao2, l2, cap2, rfl, hh2, b2⟩)
  have bA : Below wA.heap.size wA (w2.alloc (.cells #[.int .i64 s.p, .int .i64 (s.c 0), .int .i64 (s.c 1), .int .i64 (s.c 2), .int .i64 (s.c 3), .int .i64 (s.c 4), .int .i64 (s.c 5), .bool s.f] 48)) := b2.alloc b2.size _
  have hsA : StB (w2.alloc (.cells #[.int .i64 s.p, .int .i64 (s.c 0), .int .i64 (s.c 1), .int .i64 (s.c 2), .int .i64 (s.c 3), .int .i64 (s.c 4), .int .i64 (s.c 5), .bool s.f] 48)) w2.heap.size s := World.alloc_heap_new _ _
  have hh2' := hh2.all ((Below.refl _ w2).alloc (Nat.le_refl _) (.cells #[.int .i64 s.p, .int .i64 (s.c 0), .int .i64 (s.c 1), .int .i64 (s.c 2), .int .i64 (s.c 3), .int .i64 (s.c 4), .int .i64 (s.c 5), .bool s.f] 48))
  have hA2 : wA.heap.size ≤ w2.heap.size := b2.size
  clear b2 hh2 k0 k1 k2 k3
  generalize w2.alloc (.cells #[.int .i64 s.p, .int .i64 (s.c 0), .int .i64 (s.c 1), .int .i64 (s.c 2), .int .i64 (s.c 3), .int .i64 (s.c 4), .int .i64 (s.c 5), .bool s.f] 48) = W3 at *
  generalize w2.heap.size = bk at *
  have k0 := (hx.step bA).c0
  have k1 := (hx.step bA).c1
  have k2 := (hx.step bA).c2
  have k3 := (hx.step bA).c3
  go_upto_region 20 with (go_at_call 18; refine (HOm.out W3 bA).mono ?_; rintro e w4 ⟨ao4, l4, cap4, rfl, hh4, b4⟩)
  have bB0 : Below W3.heap.size W3 (w4.alloc (.cells #[.int .i64 t.p, .int .i64 (t.c 0), .int .i64 (t.c 1), .int .i64 (t.c 2), .int .i64 (t.c 3), .int .i64 (t.c 4), .int .i64 (t.c 5), .bool t.f] 48)) := b4.alloc b4.size _
  have hsB : StB (w4.alloc (.cells #[.int .i64 t.p, .int .i64 (t.c 0), .int .i64 (t.c 1), .int .i64 (t.c 2), .int .i64 (t.c 3), .int .i64 (t.c 4), .int .i64 (t.c 5), .bool t.f] 48)) w4.heap.size t := World.alloc_heap_new _ _
  have hh4' := hh4.all ((Below.refl _ w4).alloc (Nat.le_refl _) (.cells #[.int .i64 t.p, .int .i64 (t.c 0), .int .i64 (t.c 1), .int .i64 (t.c 2), .int .i64 (t.c 3), .int .i64 (t.c 4), .int .i64 (t.c 5), .bool t.f] 48))
  have hA4 : W3.heap.size ≤ w4.heap.size := b4.size
  clear b4 hh4 k0 k1 k2 k3
  generalize w4.alloc (.cells #[.int .i64 t.p, .int .i64 (t.c 0), .int .i64 (t.c 1), .int .i64 (t.c 2), .int .i64 (t.c 3), .int .i64 (t.c 4), .int .i64 (t.c 5), .bool t.f] 48) = W5 at *
  generalize w4.heap.size = bm at *
  have hsA5 : StB W5 bk s := (bB0.block _ (Array.getElem?_eq_some_iff.1 hsA).1).trans hsA
  have hh2'' := hh2'.all bB0
  have bB : Below wA.heap.size wA W5 := bA.trans (bB0.mono bA.size)
  have hbkm : bk < bm := Nat.lt_of_lt_of_le (Array.getElem?_eq_some_iff.1 hsA).1 hA4
  clear hsA hh2' bB0 bA
  obtain ⟨u0, u1, u2, u3, u4, u5, u6, u7⟩ := hsA5.cs
  obtain ⟨v0, v1, v2, v3, v4, v5, v6, v7⟩ := hsB.cs
  simp only [Nat.zero_add] at u1 u2 u3 u4 u5 u6 u7 v1 v2 v3 v4 v5 v6 v7
  have hsh := sees_small HKK.out.ok hp rn
  have HHd : Hid (Calls Tryd.prog 21 #[.slice ao2 l2 cap2, .slice ao4 l4 cap4] W5 fun e w' => e = .returned (.bool (decide (seesK k rn = seesK m rn))) ∧ Below W5.heap.size W5 w') := helds2_any _ _ _ _ W5 hh2'' hh4' hsh.2 hsh.1
  clear hsh hh2'' hh4'
  have hgd := guardSt
  have hnq := neq_st2 s t
  go_upto_region 22 with fail
  go_cut [169] from 161 to 168 (fun s169 wx => s169 = .bool (!(sameS s t && decide (seesK k rn = seesK m rn))) ∧ Below W5.heap.size W5 wx)
  case first =>
    cases hss : sameS s t with
    | false =>
      rw [hss] at hnq
      go_wp2_with fail
      go_meet
      case rel => exact ⟨by rw [hss]; rfl, Below.refl _ _⟩
    | true =>
      rw [hss] at hnq
      obtain ⟨qd, hqd⟩ : ∃ q, decide (seesK k rn = seesK m rn) = q := ⟨_, rfl⟩
      rw [hqd] at HHd
      have HQD : Hid (sameS s t = true ∧ decide (seesK k rn = seesK m rn) = qd) := ⟨hss, hqd⟩
      clear hss hqd
      go_wp2_with (go_at_call 21; refine HHd.out.mono ?_; rintro e w6 ⟨rfl, b6⟩)
      go_meet
      case rel => exact ⟨by rw [HQD.out.1, HQD.out.2, Bool.true_and], b6⟩
  case rest =>
  obtain ⟨rfl, b6⟩ := hcut
  clear u0 u1 u2 u3 u4 u5 u6 u7 v0 v1 v2 v3 v4 v5 v6 v7 HHd hnq
  generalize wc = W6 at *
  have hbig : (sameS s t && decide (seesK k rn = seesK m rn)) = true ∨ (sameS s t && decide (seesK k rn = seesK m rn)) = false := by
    cases (sameS s t && decide (seesK k rn = seesK m rn)) <;> simp
  rcases hbig with hbig | hbig
  case inr =>
    have hi0 : (0 : Int) < (i : Int) := by
      rcases Nat.eq_zero_or_pos i with h0 | h0
      · exfalso
        obtain ⟨h1, h2⟩ := HSm.out h0
        rw [← HST.out.1, ← HST.out.2] at h1
        rw [sameS_iff.2 h1, decide_eq_true h2] at hbig
        cases hbig
      · omega
    have hi0n : decide (0 < i) = true := decide_eq_true (by omega)
    rw [hbig]
    go_wp2
    go_ret
    exact ⟨rfl, (hx.step (bB.trans (b6.mono bB.size))).below⟩
  rw [hbig]
  rw [Bool.and_eq_true] at hbig
  have HSS : Hid (StSame s t ∧ seesK k rn = seesK m rn) := ⟨sameS_iff.1 hbig.1, of_decide_eq_true hbig.2⟩
  clear hbig
  have b6w : Below wA.heap.size wA W6 := bB.trans (b6.mono bB.size)
  have hx6 := hx.step b6w
  have hkk6 := HKK.out.all b6w
  have hsA6 : StB W6 bk s := (b6.block _ (Array.getElem?_eq_some_iff.1 hsA5).1).trans hsA5
  have hsB6 : StB W6 bm t := (b6.block _ (Array.getElem?_eq_some_iff.1 hsB).1).trans hsB
  have hbkF : bk ∉ F1 ++ H1 := fun hm => by have := (HKK.out.lt bk hm).2; omega
  have hbmF : bm ∉ F1 ++ H1 := fun hm => by have := (HKK.out.lt bm hm).2; omega
  have hw5b : w5.heap.size ≤ wA.heap.size := (C.since HKK.out.K).size
  clear b6 bB hsA5 hsB hx b6w HOk HOm
  have hT := kk_tick HG5.out hp (by rw [htk]; omega) (by rw [htm]; omega) hkk6
  obtain ⟨e1, e2⟩ := tick_told p k
  obtain ⟨e3, e4⟩ := tick_told p m
  have hwho : whoK p m = whoK p k := by unfold whoK; rw [htk, htm]
  rw [hwho] at e4
  rw [htk] at e1
  rw [htm] at e3
  obtain ⟨wh, hwh⟩ : ∃ x, whoK p k = x := ⟨_, rfl⟩
  rw [hwh] at e2 e4
  obtain ⟨ak, hak⟩ : ∃ x, (tickK p p.spans k).2.2.2.1 = x := ⟨_, rfl⟩
  obtain ⟨qk, hqk⟩ : ∃ x, (tickK p p.spans k).2.2.2.2 = x := ⟨_, rfl⟩
  obtain ⟨am, ham⟩ : ∃ x, (tickK p p.spans m).2.2.2.1 = x := ⟨_, rfl⟩
  obtain ⟨qm, hqm⟩ : ∃ x, (tickK p p.spans m).2.2.2.2 = x := ⟨_, rfl⟩
  unfold evA at hT
  simp only [e1, e2, e3, e4, hak, hqk, ham, hqm] at hT
  have hlenk : rn < k.rooms.length := by rw [HKK.out.ok.rl]; exact hrn
  have hlenm : rn < m.rooms.length := by rw [HKK.out.ok'.rl]; exact hrn
  have hrk : ∀ q : KD, KOk p q → q.rooms[rn]? = some (roomK q rn) := fun q hq => by
    have hlt : rn < q.rooms.length := by rw [hq.rl]; exact hrn
    unfold roomK
    rw [hrl q hq, if_neg (by decide), Int.toNat_natCast]
    simp [List.getD, hlt]
  have HSame : Hid (wh = (rn : Int) → ak = am ∧ qk = qm ∧ StSame (roomK (tickK p p.spans k).1 rn) (roomK (tickK p p.spans m).1 rn)) := fun hw => by
    have h1 := tick_same hp HKK.out.ok HKK.out.ok' (by rw [htk, htm]) hrn (hrk k HKK.out.ok) (hrk m HKK.out.ok') (by rw [← HST.out.1, ← HST.out.2]; exact HSS.out.1) HSS.out.2
    obtain ⟨h2, s', t', h3, h4, h5⟩ := h1.2 (by rw [e2]; exact hw)
    have h6 := hrk _ (tick_ok hp HKK.out.ok)
    have h7 := hrk _ (tick_ok hp HKK.out.ok')
    rw [h3] at h6
    rw [h4] at h7
    obtain rfl := Option.some.inj h6
    obtain rfl := Option.some.inj h7
    refine ⟨by rw [← hak, ← ham, h2], by rw [← hqk, ← hqm, h2], h5⟩
  have HTm : Hid ((tickK p p.spans k).1.time = ((i + 1 : Nat) : Int) ∧ (tickK p p.spans m).1.time = ((i + 1 : Nat) : Int)) := by
    refine ⟨?_, ?_⟩
    · rw [tick_time, htk]
      omega
    · rw [tick_time, htm]
      omega
  clear hak hqk ham hqm e1 e2 e3 e4 hwho hwh hlenk hlenm hkk6 HSm
  generalize (tickK p p.spans k).1 = k' at *
  generalize (tickK p p.spans m).1 = m' at *
  have HT6 : Hid (Calls Tryd.prog 11 #[.pointer (some ⟨kb, 0, none⟩)] W6 fun e w2 => e = .returned (.agg #[.int .i64 i, .int .i64 wh, .int .i64 ak, .int .i64 qk]) ∧ KTouch (F1 ++ H1) W6 w2 ∧ ∀ w3, Below w2.heap.size w2 w3 → Calls Tryd.prog 11 #[.pointer (some ⟨mb, 0, none⟩)] w3 fun e w' => e = .returned (.agg #[.int .i64 i, .int .i64 wh, .int .i64 am, .int .i64 qm]) ∧ ∃ F' H', KWent C w5 W6 w' p (.slice ca p.code.length cc) (.slice sa p.spans.length sc) (.slice wa p.wires.length wc') k' m' kb mb F1 H1 F' H' ∧ KTouch (F1 ++ H1) w3 w') := hT
  clear hT
  go_upto_region 25 with (go_at_call 11; refine HT6.out.mono ?_; rintro e w7 ⟨rfl, tk7, q8⟩)
  have hE7 : Below w7.heap.size w7 (w7.alloc (.cells #[.int .i64 i, .int .i64 wh, .int .i64 ak, .int .i64 qk] 44)) := (Below.refl _ _).alloc (Nat.le_refl _) _
  have hev1 : EvB (w7.alloc (.cells #[.int .i64 i, .int .i64 wh, .int .i64 ak, .int .i64 qk] 44)) w7.heap.size i wh ak qk := World.alloc_heap_new _ _
  have q8' := q8 _ hE7
  have hs7 : W6.heap.size ≤ w7.heap.size := tk7.size
  clear q8 tk7 hE7
  generalize hW8 : w7.alloc (.cells #[.int .i64 i, .int .i64 wh, .int .i64 ak, .int .i64 qk] 44) = W8 at *
  generalize w7.heap.size = be1 at *
  have HQ8 : Hid (Calls Tryd.prog 11 #[.pointer (some ⟨mb, 0, none⟩)] W8 fun e w' => e = .returned (.agg #[.int .i64 i, .int .i64 wh, .int .i64 am, .int .i64 qm]) ∧ ∃ F' H', KWent C w5 W6 w' p (.slice ca p.code.length cc) (.slice sa p.spans.length sc) (.slice wa p.wires.length wc') k' m' kb mb F1 H1 F' H' ∧ KTouch (F1 ++ H1) W8 w') := q8'
  clear q8' hW8
  go_upto_region 26 with (go_at_call 11; refine HQ8.out.mono ?_; rintro e w9 ⟨rfl, F2, H2, hw9, tk9⟩)
  have hF1lt : ∀ g ∈ F1 ++ H1, g < wA.heap.size := fun g hg => (HKK.out.lt g hg).2
  have hbe1 : be1 < W8.heap.size := hev1.lt
  have hlA := (Array.getElem?_eq_some_iff.1 hsA6).1
  have hlB := (Array.getElem?_eq_some_iff.1 hsB6).1
  have hev1' : EvB w9 be1 i wh ak qk := (tk9.block _ hbe1 (fun hm => by have := hF1lt be1 hm; omega)).trans hev1
  obtain ⟨hkA, hnA⟩ := hw9.keep hlA hbkF
  obtain ⟨hkB, hnB⟩ := hw9.keep hlB hbmF
  have hsA9 : StB w9 bk s := hkA.trans hsA6
  have hsB9 : StB w9 bm t := hkB.trans hsB6
  have hx9 : Bx w w9 (.slice ca p.code.length cc) p.ticks (.slice sa p.spans.length sc) (.slice wa p.wires.length wc') := Below.trans hx6 (hw9.touch.below (fun g hg => by have := (HKK.out.lt g hg).1; omega) hx6.size)
  have hkk9 := hw9.kk
  have hE9 : Below w9.heap.size w9 (w9.alloc (.cells #[.int .i64 i, .int .i64 wh, .int .i64 am, .int .i64 qm] 44)) := (Below.refl _ _).alloc (Nat.le_refl _) _
  have hev2 : EvB (w9.alloc (.cells #[.int .i64 i, .int .i64 wh, .int .i64 am, .int .i64 qm] 44)) w9.heap.size i wh am qm := World.alloc_heap_new _ _
  have hev1b : EvB (w9.alloc (.cells #[.int .i64 i, .int .i64 wh, .int .i64 am, .int .i64 qm] 44)) be1 i wh ak qk := (hE9.block _ hev1'.lt).trans hev1'
  have hsA10 : StB (w9.alloc (.cells #[.int .i64 i, .int .i64 wh, .int .i64 am, .int .i64 qm] 44)) bk s := (hE9.block _ (Array.getElem?_eq_some_iff.1 hsA9).1).trans hsA9
  have hsB10 : StB (w9.alloc (.cells #[.int .i64 i, .int .i64 wh, .int .i64 am, .int .i64 qm] 44)) bm t := (hE9.block _ (Array.getElem?_eq_some_iff.1 hsB9).1).trans hsB9
  have hx10 := hx9.step hE9
  have hkk10 := hkk9.all hE9
  clear hw9 tk9 hkA hkB hsA9 hsB9 hx9 hkk9 hev1' hev1 hE9 hsA6 hsB6 hlA hlB hx6 HQ8 HT6 hs7
  generalize w9.alloc (.cells #[.int .i64 i, .int .i64 wh, .int .i64 am, .int .i64 qm] 44) = W10 at *
  generalize w9.heap.size = be2 at *
  have HK10 : Hid (KK C w5 W10 p (.slice ca p.code.length cc) (.slice sa p.spans.length sc) (.slice wa p.wires.length wc') k' m' kb mb F2 H2) := hkk10
  clear hkk10
  obtain ⟨g0, g1, g2, g3⟩ := hev1b.cs
  obtain ⟨f0, f1, f2, f3⟩ := hev2.cs
  by_cases hw : wh = (rn : Int)
  case neg =>
    have hwb : (wh == (rn : Int)) = false := by simpa using hw
    have hwn : (wh != (rn : Int)) = true := by simpa using hw
    go_wp2
    go_roundw
    case rel => exact ⟨i + 1, k', m', F2, H2, by omega, by go_num, HTm.out.1, HTm.out.2, fun h0 => by omega, HK10.out, hx10⟩
    case measure => simp [intOf]; omega
  obtain ⟨rfl, rfl, hst⟩ := HSame.out hw
  subst hw
  have hge := guardEv
  have hne := neq_ev i rn ak qk
  obtain ⟨s1, hs1⟩ : ∃ x, x = roomK k' rn := ⟨_, rfl⟩
  obtain ⟨t1, ht1⟩ : ∃ x, x = roomK m' rn := ⟨_, rfl⟩
  rw [← hs1, ← ht1] at hst
  have hw5m : w5.heap.size ≤ bk ∧ w5.heap.size ≤ bm := by omega
  have HO1 : Hid (Calls Tryd.prog 18 #[.pointer (some ⟨kb, 0, none⟩), .agg #[.slice ca p.code.length cc, .int .i64 p.ticks, .slice sa p.spans.length sc, .slice wa p.wires.length wc'], .int .i64 rn] W10 fun e w' => ∃ (ao : Option Addr) (l cap : Nat), e = .returned (.tuple #[.agg #[.int .i64 s1.p, .int .i64 (s1.c 0), .int .i64 (s1.c 1), .int .i64 (s1.c 2), .int .i64 (s1.c 3), .int .i64 (s1.c 4), .int .i64 (s1.c 5), .bool s1.f], .slice ao l cap, .nilIface]) ∧ Below W10.heap.size W10 w') := by
    refine (HOf.out W10 k' kb F2 HK10.out.K HK10.out.ok hx10).mono ?_
    rintro e w' ⟨s', ao, l, cap, rfl, rfl, h2, h3⟩
    rw [hs1]
    exact ⟨_, _, _, rfl, h3⟩
  have HO2 : Hid (∀ W, KK C w5 W p (.slice ca p.code.length cc) (.slice sa p.spans.length sc) (.slice wa p.wires.length wc') k' m' kb mb F2 H2 → Bx w W (.slice ca p.code.length cc) p.ticks (.slice sa p.spans.length sc) (.slice wa p.wires.length wc') → Calls Tryd.prog 18 #[.pointer (some ⟨mb, 0, none⟩), .agg #[.slice ca p.code.length cc, .int .i64 p.ticks, .slice sa p.spans.length sc, .slice wa p.wires.length wc'], .int .i64 rn] W fun e w' => ∃ (ao : Option Addr) (l cap : Nat), e = .returned (.tuple #[.agg #[.int .i64 t1.p, .int .i64 (t1.c 0), .int .i64 (t1.c 1), .int .i64 (t1.c 2), .int .i64 (t1.c 3), .int .i64 (t1.c 4), .int .i64 (t1.c 5), .bool t1.f], .slice ao l cap, .nilIface]) ∧ Below W.heap.size W w') := fun W hK hxW => by
    refine (HOf.out W m' mb H2 hK.M hK.ok' hxW).mono ?_
    rintro e w' ⟨s', ao, l, cap, rfl, rfl, h2, h3⟩
    rw [ht1]
    exact ⟨_, _, _, rfl, h3⟩
  have HSS1 : Hid (sameS s1 t1 = true) := sameS_iff.2 hst
  clear hs1 ht1 hst HSame HSS HST HOf
  go_upto_region 29 with fail
  clear g0 g1 g2 g3 f0 f1 f2 f3 hne
  have k0 := hx10.c0
  have k1 := hx10.c1
  have k2 := hx10.c2
  have k3 := hx10.c3
  have hfA : ∀ W, StB W bk s → ∀ o, W.frozen? ⟨bk, o, none⟩ = false := fun W h o => by
    have e : W.heap[bk]? = _ := h
    simp [World.frozen?, e]
  have hfB : ∀ W, StB W bm t → ∀ o, W.frozen? ⟨bm, o, none⟩ = false := fun W h o => by
    have e : W.heap[bm]? = _ := h
    simp [World.frozen?, e]
  go_upto_region 30 with (go_at_call 18; refine HO1.out.mono ?_; rintro e w11 ⟨ao11, l11, cap11, rfl, b11⟩; have hsA11 : StB w11 bk s := (b11.block _ (Array.getElem?_eq_some_iff.1 hsA10).1).trans hsA10; obtain ⟨u0, u1, u2, u3, u4, u5, u6, u7⟩ := hsA11.cs; simp only [Nat.zero_add] at u1 u2 u3 u4 u5 u6 u7; have y0 := hfA w11 hsA11 0; have y1 := hfA w11 hsA11 1; have y2 := hfA w11 hsA11 2; have y3 := hfA w11 hsA11 3; have y4 := hfA w11 hsA11 4; have y5 := hfA w11 hsA11 5; have y6 := hfA w11 hsA11 6; have y7 := hfA w11 hsA11 7)
  have tk12 : KTouch [bk] w11 (setSt w11 bk 0 s1) := setSt_touch w11 (by simp) 0 s1
  have hsA12 : StB (setSt w11 bk 0 s1) bk s1 := by
    have e : w11.heap[bk]? = _ := hsA11
    unfold StB setSt
    simp [World.setCell, Array.getElem?_modify, e]
  have hsB11 : StB w11 bm t := (b11.block _ (Array.getElem?_eq_some_iff.1 hsB10).1).trans hsB10
  have hsB12 : StB (setSt w11 bk 0 s1) bm t := (tk12.block _ (Array.getElem?_eq_some_iff.1 hsB11).1 (by simp; omega)).trans hsB11
  have hK12 := (HK10.out.all b11).set tk12 hnA hw5m.1
  have hx12 : Bx w (setSt w11 bk 0 s1) (.slice ca p.code.length cc) p.ticks (.slice sa p.spans.length sc) (.slice wa p.wires.length wc') := Below.trans (hx10.step b11) (tk12.below (fun g hg => by rw [List.mem_singleton] at hg; omega) (hx10.step b11).size)
  have e12 : ((((((((w11.setCell ⟨bk, 0, none⟩ (.int .i64 s1.p)).setCell ⟨bk, 1, none⟩ (.int .i64 (s1.c 0))).setCell ⟨bk, 2, none⟩ (.int .i64 (s1.c 1))).setCell ⟨bk, 3, none⟩ (.int .i64 (s1.c 2))).setCell ⟨bk, 4, none⟩ (.int .i64 (s1.c 3))).setCell ⟨bk, 5, none⟩ (.int .i64 (s1.c 4))).setCell ⟨bk, 6, none⟩ (.int .i64 (s1.c 5))).setCell ⟨bk, 7, none⟩ (.bool s1.f)) = setSt w11 bk 0 s1 := rfl
  rw [e12]
  clear e12 u0 u1 u2 u3 u4 u5 u6 u7 y0 y1 y2 y3 y4 y5 y6 y7 k0 k1 k2 k3 tk12 hsA11 hsB11 b11 HO1 hsA10 hsB10 hx10
  generalize setSt w11 bk 0 s1 = W12 at *
  have k0 := hx12.c0
  have k1 := hx12.c1
  have k2 := hx12.c2
  have k3 := hx12.c3
  have HO3 : Hid (Calls Tryd.prog 18 #[.pointer (some ⟨mb, 0, none⟩), .agg #[.slice ca p.code.length cc, .int .i64 p.ticks, .slice sa p.spans.length sc, .slice wa p.wires.length wc'], .int .i64 rn] W12 fun e w' => ∃ (ao : Option Addr) (l cap : Nat), e = .returned (.tuple #[.agg #[.int .i64 t1.p, .int .i64 (t1.c 0), .int .i64 (t1.c 1), .int .i64 (t1.c 2), .int .i64 (t1.c 3), .int .i64 (t1.c 4), .int .i64 (t1.c 5), .bool t1.f], .slice ao l cap, .nilIface]) ∧ Below W12.heap.size W12 w') := HO2.out W12 hK12 hx12
  have HK12 : Hid (KK C w5 W12 p (.slice ca p.code.length cc) (.slice sa p.spans.length sc) (.slice wa p.wires.length wc') k' m' kb mb F2 H2) := hK12
  clear HO2 hK12
  go_upto_region 31 with (go_at_call 18; refine HO3.out.mono ?_; rintro e w13 ⟨ao13, l13, cap13, rfl, b13⟩; have hsB13 : StB w13 bm t := (b13.block _ (Array.getElem?_eq_some_iff.1 hsB12).1).trans hsB12; obtain ⟨u0, u1, u2, u3, u4, u5, u6, u7⟩ := hsB13.cs; simp only [Nat.zero_add] at u1 u2 u3 u4 u5 u6 u7; have y0 := hfB w13 hsB13 0; have y1 := hfB w13 hsB13 1; have y2 := hfB w13 hsB13 2; have y3 := hfB w13 hsB13 3; have y4 := hfB w13 hsB13 4; have y5 := hfB w13 hsB13 5; have y6 := hfB w13 hsB13 6; have y7 := hfB w13 hsB13 7)
  have tk14 : KTouch [bm] w13 (setSt w13 bm 0 t1) := setSt_touch w13 (by simp) 0 t1
  have hsB14 : StB (setSt w13 bm 0 t1) bm t1 := by
    have e : w13.heap[bm]? = _ := hsB13
    unfold StB setSt
    simp [World.setCell, Array.getElem?_modify, e]
  have hsA13 : StB w13 bk s1 := (b13.block _ (Array.getElem?_eq_some_iff.1 hsA12).1).trans hsA12
  have hsA14 : StB (setSt w13 bm 0 t1) bk s1 := (tk14.block _ (Array.getElem?_eq_some_iff.1 hsA13).1 (by simp; omega)).trans hsA13
  have hK14 := (HK12.out.all b13).set tk14 hnB hw5m.2
  have hx14 : Bx w (setSt w13 bm 0 t1) (.slice ca p.code.length cc) p.ticks (.slice sa p.spans.length sc) (.slice wa p.wires.length wc') := Below.trans (hx12.step b13) (tk14.below (fun g hg => by rw [List.mem_singleton] at hg; omega) (hx12.step b13).size)
  have e14 : ((((((((w13.setCell ⟨bm, 0, none⟩ (.int .i64 t1.p)).setCell ⟨bm, 1, none⟩ (.int .i64 (t1.c 0))).setCell ⟨bm, 2, none⟩ (.int .i64 (t1.c 1))).setCell ⟨bm, 3, none⟩ (.int .i64 (t1.c 2))).setCell ⟨bm, 4, none⟩ (.int .i64 (t1.c 3))).setCell ⟨bm, 5, none⟩ (.int .i64 (t1.c 4))).setCell ⟨bm, 6, none⟩ (.int .i64 (t1.c 5))).setCell ⟨bm, 7, none⟩ (.bool t1.f)) = setSt w13 bm 0 t1 := rfl
  rw [e14]
  clear e14 u0 u1 u2 u3 u4 u5 u6 u7 y0 y1 y2 y3 y4 y5 y6 y7 k0 k1 k2 k3 tk14 hsA13 hsB13 b13 HO3 hsA12 hsB12 hx12 HK12
  generalize setSt w13 bm 0 t1 = W14 at *
  have HK14 : Hid (KK C w5 W14 p (.slice ca p.code.length cc) (.slice sa p.spans.length sc) (.slice wa p.wires.length wc') k' m' kb mb F2 H2) := hK14
  clear hK14
  obtain ⟨u0, u1, u2, u3, u4, u5, u6, u7⟩ := hsA14.cs
  obtain ⟨v0, v1, v2, v3, v4, v5, v6, v7⟩ := hsB14.cs
  simp only [Nat.zero_add] at u1 u2 u3 u4 u5 u6 u7 v1 v2 v3 v4 v5 v6 v7
  have hnq := neq_st2 s1 t1
  rw [HSS1.out] at hnq
  go_wp2
  go_roundw
  case rel => exact ⟨i + 1, k', m', F2, H2, by omega, by go_num, HTm.out.1, HTm.out.2, fun h0 => by omega, HK14.out, hx14⟩
  case measure => simp [intOf]; omega
end Go.Proofs.YtfconbblnmbnpadDoor
