/-
  sight.Of: what a room sees, over what packages kernel and plan do.
-/
import Derived.Test.YteoemcekkcnpladGreatDoorJb15
import Derived.Test.YteoemcekkcnpladGreatDoorPlCheck
import Derived.Deep.CutRange
namespace Go.Proofs.YteoemcekkcnpladGreatDoor
open Go.RowKit

theorem below8 {B : Nat} {w w' : World} (h : Below B w w') (b : Nat) (hb : B ≤ b) (x0 x1 x2 x3 x4 x5 x6 x7 : Value) : Below B w ((((((((w'.setCell ⟨b, 0, none⟩ x0).setCell ⟨b, 1, none⟩ x1).setCell ⟨b, 2, none⟩ x2).setCell ⟨b, 3, none⟩ x3).setCell ⟨b, 4, none⟩ x4).setCell ⟨b, 5, none⟩ x5).setCell ⟨b, 6, none⟩ x6).setCell ⟨b, 7, none⟩ x7) :=
  (((((((h.setCell (p := ⟨b, 0, none⟩) hb x0).setCell (p := ⟨b, 1, none⟩) hb x1).setCell (p := ⟨b, 2, none⟩) hb x2).setCell (p := ⟨b, 3, none⟩) hb x3).setCell (p := ⟨b, 4, none⟩) hb x4).setCell (p := ⟨b, 5, none⟩) hb x5).setCell (p := ⟨b, 6, none⟩) hb x6).setCell (p := ⟨b, 7, none⟩) hb x7
theorem touch8 (w : World) (b : Nat) (x0 x1 x2 x3 x4 x5 x6 x7 : Value) : KTouch [b] w ((((((((w.setCell ⟨b, 0, none⟩ x0).setCell ⟨b, 1, none⟩ x1).setCell ⟨b, 2, none⟩ x2).setCell ⟨b, 3, none⟩ x3).setCell ⟨b, 4, none⟩ x4).setCell ⟨b, 5, none⟩ x5).setCell ⟨b, 6, none⟩ x6).setCell ⟨b, 7, none⟩ x7) :=
  have hm : b ∈ [b] := by simp
  (((((((KTouch.set w hm 0 x0).trans (KTouch.set _ hm 1 x1)).trans (KTouch.set _ hm 2 x2)).trans (KTouch.set _ hm 3 x3)).trans (KTouch.set _ hm 4 x4)).trans (KTouch.set _ hm 5 x5)).trans (KTouch.set _ hm 6 x6)).trans (KTouch.set _ hm 7 x7)
set_option maxRecDepth 100000 in
set_option maxHeartbeats 2000000 in
theorem sgt_of {G : World → Prop} (C : KerC G) (CW : KerWire C) (hF : ∀ w, G w → Forms w) : SgtOf C := fun {w0 W p vc vs vw k kb F} ic is iw r hG h hk hp hP => by
  have hfw : Forms W := hF W (C.all _ _ hG (C.since h))
  obtain ⟨ca, cc, rfl⟩ := hP.code.form
  obtain ⟨sa, sc, rfl⟩ := hP.spans.form
  obtain ⟨wa, wc', rfl⟩ := hP.wires.form
  have hx0 := Bx.first W (.slice ca p.code.length cc) p.ticks (.slice sa p.spans.length sc) (.slice wa p.wires.length wc')
  have hA0 : Below (W.heap.size + 1) (W.alloc (.cells #[.slice ca p.code.length cc, .int .i64 p.ticks, .slice sa p.spans.length sc, .slice wa p.wires.length wc'] 26)) ((W.alloc (.cells #[.slice ca p.code.length cc, .int .i64 p.ticks, .slice sa p.spans.length sc, .slice wa p.wires.length wc'] 26)).alloc (.cells #[.int .i64 0, .int .i64 0, .int .i64 0, .int .i64 0, .int .i64 0, .int .i64 0, .int .i64 0, .bool false] 46)) := (Below.refl _ _).alloc (by simp) _
  generalize hWA : (W.alloc (.cells #[.slice ca p.code.length cc, .int .i64 p.ticks, .slice sa p.spans.length sc, .slice wa p.wires.length wc'] 26)).alloc (.cells #[.int .i64 0, .int .i64 0, .int .i64 0, .int .i64 0, .int .i64 0, .int .i64 0, .int .i64 0, .bool false] 46) = WA at hA0
  have hx1 : Bx W WA (.slice ca p.code.length cc) p.ticks (.slice sa p.spans.length sc) (.slice wa p.wires.length wc') := hA0
  have hsA : WA.heap.size = W.heap.size + 2 := by rw [← hWA]; simp
  have q1 : Calls Tryz.prog 27 #[.agg #[.slice ca p.code.length cc, .int .i64 p.ticks, .slice sa p.spans.length sc, .slice wa p.wires.length wc']] WA fun e w' => e = .returned .nilIface ∧ Below WA.heap.size WA w' := by
    have := plcheck_any p _ _ _ _ (hfw.all hx1.below) (hP.all hx1.below)
    rw [hp] at this
    exact this
  have HS : Hid (∀ W', Below W.heap.size W W' → Calls Tryz.prog 13 #[.pointer (some ⟨kb, 0, none⟩), .int .i64 r] W' fun e w' => e = .returned (.tuple #[stA (roomK k r), wErr (errB (noRoom k r))]) ∧ Below W'.heap.size W' w') := fun W' hb => C.state r (C.frame h (KTouch.of (M := []) hb) (by simp)) hk hp
  have HAr : Hid (∀ W', Below W.heap.size W W' → Calls Tryz.prog 39 #[.pointer (some ⟨kb, 0, none⟩), .slice wa p.wires.length wc', .int .i64 r] W' fun e w' => ∃ ao m cap, e = .returned (.tuple #[.slice ao m cap, .nilIface]) ∧ HdF W'.heap.size w' (.slice ao m cap) (seesK k r) ∧ Below W'.heap.size W' w') := fun W' hb => saround_any C CW (.slice wa p.wires.length wc') r (C.frame h (KTouch.of (M := []) hb) (by simp)) hk hp (hP.wires.all hb)
  have hrl := hk.rl
  have k0 := hx1.c0
  have k1 := hx1.c1
  have k2 := hx1.c2
  have k3 := hx1.c3
  have hlt : W.heap.size + 1 < WA.heap.size := by omega
  have HZ : Hid (∀ W', Below WA.heap.size WA W' → W'.cell? ⟨W.heap.size + 1, 0, none⟩ = some (.int .i64 0) ∧ W'.cell? ⟨W.heap.size + 1, 1, none⟩ = some (.int .i64 0) ∧ W'.cell? ⟨W.heap.size + 1, 2, none⟩ = some (.int .i64 0) ∧ W'.cell? ⟨W.heap.size + 1, 3, none⟩ = some (.int .i64 0) ∧ W'.cell? ⟨W.heap.size + 1, 4, none⟩ = some (.int .i64 0) ∧ W'.cell? ⟨W.heap.size + 1, 5, none⟩ = some (.int .i64 0) ∧ W'.cell? ⟨W.heap.size + 1, 6, none⟩ = some (.int .i64 0) ∧ W'.cell? ⟨W.heap.size + 1, 7, none⟩ = some (.bool false)) := fun W' hb => ⟨(hb.cell (p := ⟨W.heap.size + 1, 0, none⟩) hlt).trans (by rw [← hWA]; simp [go_sem]), (hb.cell (p := ⟨W.heap.size + 1, 1, none⟩) hlt).trans (by rw [← hWA]; simp [go_sem]), (hb.cell (p := ⟨W.heap.size + 1, 2, none⟩) hlt).trans (by rw [← hWA]; simp [go_sem]), (hb.cell (p := ⟨W.heap.size + 1, 3, none⟩) hlt).trans (by rw [← hWA]; simp [go_sem]), (hb.cell (p := ⟨W.heap.size + 1, 4, none⟩) hlt).trans (by rw [← hWA]; simp [go_sem]), (hb.cell (p := ⟨W.heap.size + 1, 5, none⟩) hlt).trans (by rw [← hWA]; simp [go_sem]), (hb.cell (p := ⟨W.heap.size + 1, 6, none⟩) hlt).trans (by rw [← hWA]; simp [go_sem]), (hb.cell (p := ⟨W.heap.size + 1, 7, none⟩) hlt).trans (by rw [← hWA]; simp [go_sem])⟩
  have HY : Hid (∀ W', Below WA.heap.size WA W' → W'.frozen? ⟨W.heap.size + 1, 0, none⟩ = false ∧ W'.frozen? ⟨W.heap.size + 1, 1, none⟩ = false ∧ W'.frozen? ⟨W.heap.size + 1, 2, none⟩ = false ∧ W'.frozen? ⟨W.heap.size + 1, 3, none⟩ = false ∧ W'.frozen? ⟨W.heap.size + 1, 4, none⟩ = false ∧ W'.frozen? ⟨W.heap.size + 1, 5, none⟩ = false ∧ W'.frozen? ⟨W.heap.size + 1, 6, none⟩ = false ∧ W'.frozen? ⟨W.heap.size + 1, 7, none⟩ = false) := fun W' hb => ⟨(hb.frozen (p := ⟨W.heap.size + 1, 0, none⟩) hlt).trans (by rw [← hWA]; simp [go_sem]), (hb.frozen (p := ⟨W.heap.size + 1, 1, none⟩) hlt).trans (by rw [← hWA]; simp [go_sem]), (hb.frozen (p := ⟨W.heap.size + 1, 2, none⟩) hlt).trans (by rw [← hWA]; simp [go_sem]), (hb.frozen (p := ⟨W.heap.size + 1, 3, none⟩) hlt).trans (by rw [← hWA]; simp [go_sem]), (hb.frozen (p := ⟨W.heap.size + 1, 4, none⟩) hlt).trans (by rw [← hWA]; simp [go_sem]), (hb.frozen (p := ⟨W.heap.size + 1, 5, none⟩) hlt).trans (by rw [← hWA]; simp [go_sem]), (hb.frozen (p := ⟨W.heap.size + 1, 6, none⟩) hlt).trans (by rw [← hWA]; simp [go_sem]), (hb.frozen (p := ⟨W.heap.size + 1, 7, none⟩) hlt).trans (by rw [← hWA]; simp [go_sem])⟩
  unfold plV
  clear hP h hG hx0 hfw hA0
  have hbA := hx1.below
  by_cases hbig : (p.code.length : Int) ≤ r
  · have hno : noRoom k r = true := by
      unfold noRoom
      rw [hrl, Bool.or_eq_true]
      exact Or.inr (decide_eq_true hbig)
    have hrk : roomK k r = stNew := by
      unfold roomK
      rw [if_pos hno]
    have hbd : decide ((p.code.length : Int) ≤ r) = true := decide_eq_true hbig
    rw [hrk, hno, if_pos rfl]
    go_enter Tryz.func21, Tryz.ntmps21
    go_upto_region 1 with fail
    clear hWA
    go_wp2_with (go_at_call 27; refine q1.mono ?_; rintro e w1 ⟨rfl, b1⟩; obtain ⟨z0, z1, z2, z3, z4, z5, z6, z7⟩ := HZ.out w1 b1; obtain ⟨y0, y1, y2, y3, y4, y5, y6, y7⟩ := HY.out w1 b1; have hx2 := hx1.step b1; replace k0 := hx2.c0; replace k1 := hx2.c1; replace k2 := hx2.c2; replace k3 := hx2.c3)
    refine bodyPost_ret (v := .tuple #[stA stNew, .slice none 0 0, wErr (errB true)]) ?_ rfl ⟨_, rfl, Or.inl ⟨rfl, _, _, rfl⟩, ?_⟩
    · simp [results, Tryz.results21, go_sem, stA, stNew, wErr, errB, z0, z1, z2, z3, z4, z5, z6, z7]
    · exact below8 hx2.below (W.heap.size + 1) (by omega) _ _ _ _ _ _ _ _
  · have hbd : decide ((p.code.length : Int) ≤ r) = false := decide_eq_false hbig
    by_cases hneg : r < 0
    · have hno : noRoom k r = true := by
        unfold noRoom
        rw [Bool.or_eq_true]
        exact Or.inl (decide_eq_true hneg)
      have hrk : roomK k r = stNew := by
        unfold roomK
        rw [if_pos hno]
      have HS' : Hid (∀ W', Below W.heap.size W W' → Calls Tryz.prog 13 #[.pointer (some ⟨kb, 0, none⟩), .int .i64 r] W' fun e w' => e = .returned (.tuple #[.agg #[.int .i64 0, .int .i64 0, .int .i64 0, .int .i64 0, .int .i64 0, .int .i64 0, .int .i64 0, .bool false], .iface 95 (.int .i64 1)]) ∧ Below W'.heap.size W' w') := fun W' hb => by
        have := HS.out W' hb
        rw [hrk, hno] at this
        exact this
      rw [hrk, hno, if_pos rfl]
      clear HS
      go_enter Tryz.func21, Tryz.ntmps21
      go_upto_region 1 with fail
      clear hWA
      go_upto_region 8 with (first
        | (go_at_call 27; refine q1.mono ?_; rintro e w1 ⟨rfl, b1⟩; clear q1; have hx2 := hx1.step b1; replace k0 := hx2.c0; replace k1 := hx2.c1; replace k2 := hx2.c2; replace k3 := hx2.c3; have q2 := HS'.out w1 hx2.below)
        | (go_at_call 13; refine q2.mono ?_; rintro e w2 ⟨rfl, b2⟩; clear q2))
      have b12 := b1.trans (b2.mono b1.size)
      have b13 : Below WA.heap.size WA (w2.alloc (.cells #[.int .i64 0, .int .i64 0, .int .i64 0, .int .i64 0, .int .i64 0, .int .i64 0, .int .i64 0, .bool false] 46)) := b12.alloc b12.size _
      generalize w2.alloc (.cells #[.int .i64 0, .int .i64 0, .int .i64 0, .int .i64 0, .int .i64 0, .int .i64 0, .int .i64 0, .bool false] 46) = w3 at b13 ⊢
      have hx3 := hx1.step b13
      obtain ⟨z0, z1, z2, z3, z4, z5, z6, z7⟩ := HZ.out w3 b13
      obtain ⟨y0, y1, y2, y3, y4, y5, y6, y7⟩ := HY.out w3 b13
      go_wp2
      refine bodyPost_ret (v := .tuple #[stA stNew, .slice none 0 0, wErr (errB true)]) ?_ rfl ⟨_, rfl, Or.inl ⟨rfl, _, _, rfl⟩, ?_⟩
      · simp [results, Tryz.results21, go_sem, stA, stNew, wErr, errB, z0, z1, z2, z3, z4, z5, z6, z7]
      · exact below8 hx3.below (W.heap.size + 1) (by omega) _ _ _ _ _ _ _ _
    · obtain ⟨m, rfl⟩ : ∃ m : Nat, r = m := ⟨r.toNat, by omega⟩
      have hno : noRoom k m = false := by
        unfold noRoom
        rw [hrl, Bool.or_eq_false_iff]
        exact ⟨decide_eq_false (by omega), decide_eq_false (by omega)⟩
      obtain ⟨s, hs⟩ : ∃ s, roomK k m = s := ⟨_, rfl⟩
      have HS' : Hid (∀ W', Below W.heap.size W W' → Calls Tryz.prog 13 #[.pointer (some ⟨kb, 0, none⟩), .int .i64 m] W' fun e w' => e = .returned (.tuple #[.agg #[.int .i64 s.p, .int .i64 (s.c 0), .int .i64 (s.c 1), .int .i64 (s.c 2), .int .i64 (s.c 3), .int .i64 (s.c 4), .int .i64 (s.c 5), .bool s.f], .nilIface]) ∧ Below W'.heap.size W' w') := fun W' hb => by
        have := HS.out W' hb
        rw [hs, hno] at this
        exact this
      rw [hs, hno, if_neg (by decide)]
      clear HS hno hs hneg
      go_enter Tryz.func21, Tryz.ntmps21
      go_upto_region 1 with fail
      clear hWA
      go_upto_region 9 with (first
        | (go_at_call 27; refine q1.mono ?_; rintro e w1 ⟨rfl, b1⟩; clear q1; have hx2 := hx1.step b1; replace k0 := hx2.c0; replace k1 := hx2.c1; replace k2 := hx2.c2; replace k3 := hx2.c3; have q2 := HS'.out w1 hx2.below)
        | (go_at_call 13; refine q2.mono ?_; rintro e w2 ⟨rfl, b2⟩; clear q2))
      have b12 := b1.trans (b2.mono b1.size)
      have hB3 : Below w2.heap.size w2 (w2.alloc (.cells #[.int .i64 s.p, .int .i64 (s.c 0), .int .i64 (s.c 1), .int .i64 (s.c 2), .int .i64 (s.c 3), .int .i64 (s.c 4), .int .i64 (s.c 5), .bool s.f] 46)) := (Below.refl _ _).alloc (Nat.le_refl _) _
      have b13 := b12.trans (hB3.mono b12.size)
      have hs0 : StC (w2.alloc (.cells #[.int .i64 s.p, .int .i64 (s.c 0), .int .i64 (s.c 1), .int .i64 (s.c 2), .int .i64 (s.c 3), .int .i64 (s.c 4), .int .i64 (s.c 5), .bool s.f] 46)) w2.heap.size 0 s := by constructor <;> simp [go_sem]
      have hs3 : w2.heap.size < (w2.alloc (.cells #[.int .i64 s.p, .int .i64 (s.c 0), .int .i64 (s.c 1), .int .i64 (s.c 2), .int .i64 (s.c 3), .int .i64 (s.c 4), .int .i64 (s.c 5), .bool s.f] 46)).heap.size := by simp
      generalize w2.alloc (.cells #[.int .i64 s.p, .int .i64 (s.c 0), .int .i64 (s.c 1), .int .i64 (s.c 2), .int .i64 (s.c 3), .int .i64 (s.c 4), .int .i64 (s.c 5), .bool s.f] 46) = w3 at hB3 b13 hs0 hs3 ⊢
      have hx3 := hx1.step b13
      replace k3 := hx3.c3
      have q3 := HAr.out w3 hx3.below
      go_wp2_with (go_at_call 39; refine q3.mono ?_; rintro e w4 ⟨ao, n, cap, rfl, hh, b4⟩; clear q3; have b14 := b13.trans (b4.mono b13.size); have hx4 := hx1.step b14; obtain ⟨z0, z1, z2, z3, z4, z5, z6, z7⟩ := HZ.out w4 b14; obtain ⟨y0, y1, y2, y3, y4, y5, y6, y7⟩ := HY.out w4 b14; obtain ⟨q0, q1, q2, q3, q4, q5, q6, q7⟩ := hs0.block (b4.block _ hs3); have hs2 := b12.size; have hne : w2.heap.size ≠ W.heap.size + 1 := by omega)
      refine bodyPost_ret (v := .tuple #[stA s, .slice ao n cap, wErr (errB false)]) ?_ rfl ⟨_, rfl, ?_, ?_⟩
      · simp [results, Tryz.results21, go_sem, stA, wErr, errB, z0, z1, z2, z3, z4, z5, z6, z7]
      · obtain ⟨l, h1, _⟩ := hh.touch (touch8 w4 (W.heap.size + 1) _ _ _ _ _ _ _ _) (fun m hm => by rw [List.mem_singleton] at hm; have := b13.size; omega)
        exact h1.hdl
      · exact below8 hx4.below (W.heap.size + 1) (by omega) _ _ _ _ _ _ _ _
end Go.Proofs.YteoemcekkcnpladGreatDoor
