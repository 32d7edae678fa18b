/-
  The law CareStays: the walk, under what packages care, kernel and purge do.
-/
import Derived.Test.YteoemcekkcnplafDoorJc10
import Derived.Test.YteoemcekkcnplafDoorStEq
import Derived.Deep.CutRange
import Derived.Deep.CutBlock
import Derived.Deep.RegionWith
import Derived.BigQuiet
import Derived.RangeFuncNested
import Derived.RangeFuncRecord
namespace Go.Proofs.YteoemcekkcnplafDoor
open Go.RowKit

set_option maxRecDepth 1000000 in
set_option maxHeartbeats 16000000 in
theorem cstays_of {G : World → Prop} (CC : CarC G) (CK : KerC G) (P : PrgPurge G) (p : PD) (vc vs vw wv : Value) (what : List Int) (most n r : Int) (w : World) (hG : G w) (hP : Pln w vc vs vw p) (hW : Stp w wv what) :
    Calls Tryd.prog 4 #[plV vc p.ticks vs vw, wv, .int .i64 most, .int .i64 n, .int .i64 r] w fun e w' => e = .returned (.bool true) ∧ Below w.heap.size w w' := by
  obtain ⟨ca, cc, rfl⟩ := hP.code.form
  obtain ⟨sa, sc, rfl⟩ := hP.spans.form
  obtain ⟨wa, wc', rfl⟩ := hP.wires.form
  obtain ⟨ta, tc, rfl⟩ := hW.form
  have hx0 := Bx.first w (.slice ca p.code.length cc) p.ticks (.slice sa p.spans.length sc) (.slice wa p.wires.length wc')
  have HP : Hid (Pln w (.slice ca p.code.length cc) (.slice sa p.spans.length sc) (.slice wa p.wires.length wc') p) := hP
  have HW : Hid (Stp w (.slice ta what.length tc) what) := hW
  have HG : Hid (∀ W, Below w.heap.size w W → G W) := fun W hb => CC.all w W hG hb
  unfold plV
  clear hP hW hG
  go_enter Tryd.func4, Tryd.ntmps4
  go_upto_region 1 with fail
  generalize hWA : w.alloc (.cells #[.slice ca p.code.length cc, .int .i64 p.ticks, .slice sa p.spans.length sc, .slice wa p.wires.length wc'] 26) = WA at hx0 ⊢
  clear hWA
  have hpl := failP_pln WA WA.heap.size rfl
  have hB0 : Below WA.heap.size WA (((WA.alloc (.cells #[.int .i64 11, .int .i64 0, .int .i64 0] 57)).alloc (.cells #[.slice (some ⟨WA.heap.size, 0, none⟩) 1 1] 36)).alloc (.cells #[.int .i64 0, .int .i64 1, .int .i64 0] 59)) := (((Below.refl _ _).alloc (Nat.le_refl _) _).alloc (by simp) _).alloc (by simp; omega) _
  have hB1 : Below WA.heap.size WA ((((WA.alloc (.cells #[.int .i64 11, .int .i64 0, .int .i64 0] 57)).alloc (.cells #[.slice (some ⟨WA.heap.size, 0, none⟩) 1 1] 36)).alloc (.cells #[.int .i64 0, .int .i64 1, .int .i64 0] 59)).alloc (.cells #[.int .i64 1] 3)) := hB0.alloc hB0.size _
  have hS1 : Stp ((((WA.alloc (.cells #[.int .i64 11, .int .i64 0, .int .i64 0] 57)).alloc (.cells #[.slice (some ⟨WA.heap.size, 0, none⟩) 1 1] 36)).alloc (.cells #[.int .i64 0, .int .i64 1, .int .i64 0] 59)).alloc (.cells #[.int .i64 1] 3)) (.slice (some ⟨WA.heap.size + 3, 0, none⟩) 1 1) [1] := by
    refine Or.inr ⟨WA.heap.size + 3, 0, 1, rfl, by simp, fun i x hi => ?_⟩
    match i, hi with
    | 0, hi =>
      simp at hi
      subst hi
      simp [go_sem]
    | i + 1, hi => simp at hi
  have q1 : Calls Tryd.prog 13 #[.agg #[.slice (some ⟨WA.heap.size + 1, 0, none⟩) 1 1, .int .i64 1, .slice (some ⟨WA.heap.size + 2, 0, none⟩) 1 1, .slice none 0 0], .slice (some ⟨WA.heap.size + 3, 0, none⟩) 1 1, .int .i64 1] ((((WA.alloc (.cells #[.int .i64 11, .int .i64 0, .int .i64 0] 57)).alloc (.cells #[.slice (some ⟨WA.heap.size, 0, none⟩) 1 1] 36)).alloc (.cells #[.int .i64 0, .int .i64 1, .int .i64 0] 59)).alloc (.cells #[.int .i64 1] 3)) fun e w' => ∃ ob F, e = .returned (.tuple #[.pointer (some ⟨ob, 0, none⟩), .nilIface]) ∧ CC.K WA w' failP [1] 1 (failD 0) ob F := by
    refine (CC.new failP _ _ _ _ [1] 1 _ (HG.out _ (hx0.step hB1).below) (hpl.all ((Below.refl _ _).alloc (Nat.le_refl _) _)) hS1 fail_carE).mono ?_
    rintro e w' ⟨ob, F, rfl, h⟩
    exact ⟨ob, F, rfl, CC.lower hB1 h⟩
  have HG0 : Hid (G WA) := HG.out WA hx0.below
  have HTk : Hid (∀ (j : Nat) (x : Int) W ob F, j ≤ 3 → (evC failP [1] 1 (failD j)).2.2.2 = x → CC.K WA W failP [1] 1 (failD j) ob F → Calls Tryd.prog 14 #[.pointer (some ⟨ob, 0, none⟩)] W fun e w' => (∃ a b c, e = .returned (.agg #[.int .i64 a, .int .i64 b, .int .i64 c, .int .i64 x])) ∧ ∃ F', CC.K WA w' failP [1] 1 (failD (j + 1)) ob F' ∧ KTouch F W w' ∧ ∀ g ∈ F', g ∈ F ∨ W.heap.size ≤ g) := fun j x W ob F hj hx hK => by
    subst hx
    refine (CC.tick HG0.out hK fail_carE (failD_ok j) (by rw [fail_time]; omega)).mono ?_
    rintro e w' ⟨rfl, F', h1, h2, h3⟩
    exact ⟨⟨_, _, _, rfl⟩, F', h1, h2, h3⟩
  clear hpl hB0 hB1 hS1
  go_upto_region 4 with (go_at_call 13; refine q1.mono ?_; rintro e w1 ⟨ob, F0, rfl, hK0⟩; clear q1)
  have q2 := HTk.out 0 4 w1 ob F0 (by omega) fail_0 hK0
  go_upto_region 5 with (go_at_call 14; refine q2.mono ?_; rintro e w2 ⟨⟨x1, x2, x3, rfl⟩, F1, hK1, _, _⟩; clear q2)
  have hA3 : Below w2.heap.size w2 (w2.alloc (.cells #[.int .i64 x1, .int .i64 x2, .int .i64 x3, .int .i64 4] 45)) := (Below.refl _ _).alloc (Nat.le_refl _) _
  have hE3 : (w2.alloc (.cells #[.int .i64 x1, .int .i64 x2, .int .i64 x3, .int .i64 4] 45)).heap[w2.heap.size]? = some (.cells #[.int .i64 x1, .int .i64 x2, .int .i64 x3, .int .i64 4] 45) := World.alloc_heap_new _ _
  have hs3 : (w2.alloc (.cells #[.int .i64 x1, .int .i64 x2, .int .i64 x3, .int .i64 4] 45)).heap.size = w2.heap.size + 1 := by simp
  generalize w2.alloc (.cells #[.int .i64 x1, .int .i64 x2, .int .i64 x3, .int .i64 4] 45) = w3 at hA3 hE3 hs3 ⊢
  have hK3 := CC.frame hK1 (KTouch.of (M := []) hA3) (by simp)
  have q3 := HTk.out 1 4 w3 ob F1 (by omega) fail_1 hK3
  go_upto_region 6 with (go_at_call 14; refine q3.mono ?_; rintro e w4 ⟨⟨y1, y2, y3, rfl⟩, F2, hK4, tk4, hF2⟩; clear q3)
  have hE4 := (tk4.block w2.heap.size (by omega) (fun hm => by have := (CC.ge hK1 _ hm).2; omega)).trans hE3
  have s4 := tk4.size
  have hA5 : Below w4.heap.size w4 (w4.alloc (.cells #[.int .i64 y1, .int .i64 y2, .int .i64 y3, .int .i64 4] 45)) := (Below.refl _ _).alloc (Nat.le_refl _) _
  have hF5 : (w4.alloc (.cells #[.int .i64 y1, .int .i64 y2, .int .i64 y3, .int .i64 4] 45)).heap[w4.heap.size]? = some (.cells #[.int .i64 y1, .int .i64 y2, .int .i64 y3, .int .i64 4] 45) := World.alloc_heap_new _ _
  have hs5 : (w4.alloc (.cells #[.int .i64 y1, .int .i64 y2, .int .i64 y3, .int .i64 4] 45)).heap.size = w4.heap.size + 1 := by simp
  generalize w4.alloc (.cells #[.int .i64 y1, .int .i64 y2, .int .i64 y3, .int .i64 4] 45) = w5 at hA5 hF5 hs5 ⊢
  have hE5 := (hA5.block w2.heap.size (by omega)).trans hE4
  have hK5 := CC.frame hK4 (KTouch.of (M := []) hA5) (by simp)
  have q4 := HTk.out 2 5 w5 ob F2 (by omega) fail_2 hK5
  go_upto_region 7 with (go_at_call 14; refine q4.mono ?_; rintro e w6 ⟨⟨z1, z2, z3, rfl⟩, F3, hK6, tk6, _⟩; clear q4)
  have s6 := tk6.size
  have hE6 := (tk6.block w2.heap.size (by omega) (fun hm => by
    rcases hF2 _ hm with h1 | h1
    · have := (CC.ge hK1 _ h1).2
      omega
    · omega)).trans hE5
  have hF6 := (tk6.block w4.heap.size (by omega) (fun hm => by have := (CC.ge hK4 _ hm).2; omega)).trans hF5
  have hA7 : Below w6.heap.size w6 (w6.alloc (.cells #[.int .i64 z1, .int .i64 z2, .int .i64 z3, .int .i64 5] 45)) := (Below.refl _ _).alloc (Nat.le_refl _) _
  have hG7 : (w6.alloc (.cells #[.int .i64 z1, .int .i64 z2, .int .i64 z3, .int .i64 5] 45)).heap[w6.heap.size]? = some (.cells #[.int .i64 z1, .int .i64 z2, .int .i64 z3, .int .i64 5] 45) := World.alloc_heap_new _ _
  have hs7 : (w6.alloc (.cells #[.int .i64 z1, .int .i64 z2, .int .i64 z3, .int .i64 5] 45)).heap.size = w6.heap.size + 1 := by simp
  generalize w6.alloc (.cells #[.int .i64 z1, .int .i64 z2, .int .i64 z3, .int .i64 5] 45) = w7 at hA7 hG7 hs7 ⊢
  have hE7 := (hA7.block w2.heap.size (by omega)).trans hE6
  have hF7 := (hA7.block w4.heap.size (by omega)).trans hF6
  have hK7 := CC.frame hK6 (KTouch.of (M := []) hA7) (by simp)
  have q5 : Calls Tryd.prog 15 #[.pointer (some ⟨ob, 0, none⟩), .int .i64 0] w7 fun e w' => e = .returned (.tuple #[.int .i64 1, .nilIface]) ∧ Below w7.heap.size w7 w' := by
    refine (CC.times 0 hK7 (failD_ok 3) fail_carE).mono ?_
    rintro e w' ⟨rfl, h⟩
    rw [fail_t.1, fail_t.2]
    exact ⟨rfl, h⟩
  have hx7 := hx0.step (CC.since hK7)
  go_upto_region 10 with (go_at_call 15; refine q5.mono ?_; rintro e w8 ⟨rfl, b8⟩; clear q5; have g1 : w8.cell? ⟨w2.heap.size, 3, none⟩ = some (.int .i64 4) := (b8.cell (p := ⟨w2.heap.size, 3, none⟩) (show w2.heap.size < w7.heap.size by omega)).trans (by simp [World.cell?, hE7]); have g2 : w8.cell? ⟨w4.heap.size, 3, none⟩ = some (.int .i64 4) := (b8.cell (p := ⟨w4.heap.size, 3, none⟩) (show w4.heap.size < w7.heap.size by omega)).trans (by simp [World.cell?, hF7]); have g3 : w8.cell? ⟨w6.heap.size, 3, none⟩ = some (.int .i64 5) := (b8.cell (p := ⟨w6.heap.size, 3, none⟩) (show w6.heap.size < w7.heap.size by omega)).trans (by simp [World.cell?, hG7]))
  have hx8 := hx7.step b8
  clear g1 g2 g3 hE7 hF7 hG7 hE6 hF6 hE5 hF5 hE4 hE3 hK7 hK6 hK5 hK4 hK3 hK1 hK0 tk6 tk4 hF2 hx7 b8 hA7 hA5 hA3 hs7 hs5 hs3 s6 s4 HTk hx0 HG0
  have k0 := hx8.c0
  have k1 := hx8.c1
  have k2 := hx8.c2
  have k3 := hx8.c3
  by_cases hc : carE p what most = 0
  case neg =>
    have HN : Hid (Calls Tryd.prog 13 #[.agg #[.slice ca p.code.length cc, .int .i64 p.ticks, .slice sa p.spans.length sc, .slice wa p.wires.length wc'], .slice ta what.length tc, .int .i64 most] w8 fun e w' => ∃ x, e = .returned (.tuple #[.pointer x, .iface 80 (.int .i64 (carE p what most))]) ∧ Below w8.heap.size w8 w') := by
      have := CC.no p _ _ _ _ what most w8 (HG.out w8 hx8.below) (HP.out.all hx8.below) (HW.out.every hx8.below) hc
      rw [wErr_not hc] at this
      exact this
    generalize carE p what most = z at HN hc
    go_wp2_with (go_at_call 13; refine HN.out.mono ?_; rintro e w9 ⟨x, rfl, b9⟩)
    go_ret
    exact ⟨rfl, (hx8.step b9).below⟩
  have hcz := carE_zero hc
  have hp := hcz.1
  have HLen : Hid (what.length = p.code.length) := hcz.2.1
  have HN : Hid (Calls Tryd.prog 13 #[.agg #[.slice ca p.code.length cc, .int .i64 p.ticks, .slice sa p.spans.length sc, .slice wa p.wires.length wc'], .slice ta what.length tc, .int .i64 most] w8 fun e w' => ∃ cb F, e = .returned (.tuple #[.pointer (some ⟨cb, 0, none⟩), .nilIface]) ∧ CC.K w8 w' p what most (newC p) cb F) := CC.new p _ _ _ _ what most w8 (HG.out w8 hx8.below) (HP.out.all hx8.below) (HW.out.every hx8.below) hc
  have HKn : Hid (∀ W, Below w.heap.size w W → Calls Tryd.prog 16 #[.agg #[.slice ca p.code.length cc, .int .i64 p.ticks, .slice sa p.spans.length sc, .slice wa p.wires.length wc']] W fun e w' => ∃ kb F, e = .returned (.tuple #[.pointer (some ⟨kb, 0, none⟩), .nilIface]) ∧ CK.K W w' p (.slice ca p.code.length cc) (.slice sa p.spans.length sc) (.slice wa p.wires.length wc') (newK p) kb F) := fun W hb => CK.new p _ _ _ W (HG.out W hb) (HP.out.all hb) hp
  have HPg : Hid (∀ W, Below w.heap.size w W → Calls Tryd.prog 17 #[.agg #[.slice ca p.code.length cc, .int .i64 p.ticks, .slice sa p.spans.length sc, .slice wa p.wires.length wc'], .int .i64 r] W fun e w' => ∃ a4 c4 a5 c5 a6 c6, e = .returned (.tuple #[.agg #[.slice a4 (prgP p r).code.length c4, .int .i64 (prgP p r).ticks, .slice a5 (prgP p r).spans.length c5, .slice a6 (prgP p r).wires.length c6], wErr (prgE p r)]) ∧ Pln w' (.slice a4 (prgP p r).code.length c4) (.slice a5 (prgP p r).spans.length c5) (.slice a6 (prgP p r).wires.length c6) (prgP p r) ∧ Below W.heap.size W w') := fun W hb => by
    refine (P p _ _ _ r W (HG.out W hb) (HP.out.all hb)).mono ?_
    rintro e w' ⟨jc, js, jw, rfl, h1, h2⟩
    obtain ⟨a4, c4, rfl⟩ := h1.code.form
    obtain ⟨a5, c5, rfl⟩ := h1.spans.form
    obtain ⟨a6, c6, rfl⟩ := h1.wires.form
    exact ⟨a4, c4, a5, c5, a6, c6, rfl, h1, h2⟩
  clear hcz
  by_cases hz : prgE p r = 0
  case neg =>
    have hout : r < 0 ∨ (p.code.length : Int) ≤ r := by
      unfold prgE at hz
      rw [if_pos hp] at hz
      split at hz
      · rename_i h
        exact h
      · exact absurd rfl hz
    have hcase : decide (r < 0) = true ∨ (decide (r < 0) = false ∧ decide ((p.code.length : Int) ≤ r) = true) := by
      by_cases h : r < 0
      · exact Or.inl (decide_eq_true h)
      · exact Or.inr ⟨decide_eq_false h, decide_eq_true (hout.resolve_left h)⟩
    have HPg2 : Hid (∀ W, Below w.heap.size w W → Calls Tryd.prog 17 #[.agg #[.slice ca p.code.length cc, .int .i64 p.ticks, .slice sa p.spans.length sc, .slice wa p.wires.length wc'], .int .i64 r] W fun e w' => ∃ a4 l4 c4 n5 a5 l5 c5 a6 l6 c6, e = .returned (.tuple #[.agg #[.slice a4 l4 c4, .int .i64 n5, .slice a5 l5 c5, .slice a6 l6 c6], .iface 80 (.int .i64 (prgE p r))]) ∧ Below W.heap.size W w') := fun W hb => by
      refine (HPg.out W hb).mono ?_
      rintro e w' ⟨a4, c4, a5, c5, a6, c6, rfl, _, h2⟩
      rw [wErr_not hz]
      exact ⟨_, _, _, _, _, _, _, _, _, _, rfl, h2⟩
    generalize prgE p r = z at HPg2 hz
    clear HPg hout
    rcases hcase with h1 | ⟨h1, h2⟩
    all_goals
      go_wp2_with (first
        | (go_at_call 13; refine HN.out.mono ?_; rintro e w9 ⟨cb, F, rfl, hK9⟩; clear k0 k1 k2 k3; have hx9 := hx8.step (CC.since hK9); have k0 := hx9.c0; have k1 := hx9.c1; have k2 := hx9.c2; have k3 := hx9.c3; have q9 := HKn.out w9 hx9.below)
        | (go_at_call 16; refine q9.mono ?_; rintro e w10 ⟨kb, H, rfl, hk10⟩; clear q9 k0 k1 k2 k3; have hx10 := hx9.step (CK.since hk10); have k0 := hx10.c0; have k1 := hx10.c1; have k2 := hx10.c2; have k3 := hx10.c3; have q10 := HPg2.out w10 hx10.below)
        | (go_at_call 17; refine q10.mono ?_; rintro e w11 ⟨a4, l4, c4, n5, a5, l5, c5, a6, l6, c6, rfl, b11⟩; clear q10 k0 k1 k2 k3; have hx11 := (hx10.step b11).step ((Below.refl _ w11).alloc (Nat.le_refl _) (.cells #[.slice a4 l4 c4, .int .i64 n5, .slice a5 l5 c5, .slice a6 l6 c6] 26)); have k0 := hx11.c0))
      go_ret
      exact ⟨rfl, hx11.below⟩
  obtain ⟨_, hr0, hr1⟩ := prgE_zero hz
  have HQ : Hid (prgP p r = purgeP p (fun i => way p.wires i r.toNat)) := by
    show _ = _
    unfold prgP
    rw [if_pos hz]
  have hcq : carE (prgP p r) what most = 0 := by
    rw [HQ.out]
    exact purge_carE _ hc
  rw [hz, show wErr 0 = Value.nilIface from rfl] at HPg
  clear hz
  obtain ⟨rn, rfl⟩ : ∃ k : Nat, r = k := ⟨r.toNat, by omega⟩
  rw [Int.toNat_natCast] at HQ
  have hrn : rn < p.code.length := by omega
  have q8 := HN.out
  go_upto_region 17 with (first
    | (go_at_call 13; refine q8.mono ?_; rintro e w9 ⟨cb, F, rfl, hK9⟩; clear q8 k0 k1 k2 k3; have hx9 := hx8.step (CC.since hK9); have k0 := hx9.c0; have k1 := hx9.c1; have k2 := hx9.c2; have k3 := hx9.c3; have q9 := HKn.out w9 hx9.below)
    | (go_at_call 16; refine q9.mono ?_; rintro e w10 ⟨kb, H, rfl, hk10⟩; clear q9 k0 k1 k2 k3; have hx10 := hx9.step (CK.since hk10); have k0 := hx10.c0; have k1 := hx10.c1; have k2 := hx10.c2; have k3 := hx10.c3; have q10 := HPg.out w10 hx10.below)
    | (go_at_call 17; refine q10.mono ?_; rintro e w11 ⟨a4, c4, a5, c5, a6, c6, rfl, hpl11, b11⟩; clear q10))
  have hB12 : Below w11.heap.size w11 (w11.alloc (.cells #[.slice a4 (prgP p rn).code.length c4, .int .i64 (prgP p rn).ticks, .slice a5 (prgP p rn).spans.length c5, .slice a6 (prgP p rn).wires.length c6] 26)) := (Below.refl _ _).alloc (Nat.le_refl _) _
  have m0 : (w11.alloc (.cells #[.slice a4 (prgP p rn).code.length c4, .int .i64 (prgP p rn).ticks, .slice a5 (prgP p rn).spans.length c5, .slice a6 (prgP p rn).wires.length c6] 26)).cell? ⟨w11.heap.size, 0, none⟩ = some (.slice a4 (prgP p rn).code.length c4) := by simp
  have m1 : (w11.alloc (.cells #[.slice a4 (prgP p rn).code.length c4, .int .i64 (prgP p rn).ticks, .slice a5 (prgP p rn).spans.length c5, .slice a6 (prgP p rn).wires.length c6] 26)).cell? ⟨w11.heap.size, 1, none⟩ = some (.int .i64 (prgP p rn).ticks) := by simp
  have m2 : (w11.alloc (.cells #[.slice a4 (prgP p rn).code.length c4, .int .i64 (prgP p rn).ticks, .slice a5 (prgP p rn).spans.length c5, .slice a6 (prgP p rn).wires.length c6] 26)).cell? ⟨w11.heap.size, 2, none⟩ = some (.slice a5 (prgP p rn).spans.length c5) := by simp
  have m3 : (w11.alloc (.cells #[.slice a4 (prgP p rn).code.length c4, .int .i64 (prgP p rn).ticks, .slice a5 (prgP p rn).spans.length c5, .slice a6 (prgP p rn).wires.length c6] 26)).cell? ⟨w11.heap.size, 3, none⟩ = some (.slice a6 (prgP p rn).wires.length c6) := by simp
  have hx12 := (hx10.step b11).step hB12
  have hpl12 := hpl11.all hB12
  have b12 : Below w10.heap.size w10 (w11.alloc (.cells #[.slice a4 (prgP p rn).code.length c4, .int .i64 (prgP p rn).ticks, .slice a5 (prgP p rn).spans.length c5, .slice a6 (prgP p rn).wires.length c6] 26)) := b11.trans (hB12.mono b11.size)
  generalize w11.heap.size = qb at m0 m1 m2 m3 ⊢
  generalize w11.alloc (.cells #[.slice a4 (prgP p rn).code.length c4, .int .i64 (prgP p rn).ticks, .slice a5 (prgP p rn).spans.length c5, .slice a6 (prgP p rn).wires.length c6] 26) = w12 at hB12 m0 m1 m2 m3 hx12 hpl12 b12 ⊢
  have q12 : Calls Tryd.prog 13 #[.agg #[.slice a4 (prgP p rn).code.length c4, .int .i64 (prgP p rn).ticks, .slice a5 (prgP p rn).spans.length c5, .slice a6 (prgP p rn).wires.length c6], .slice ta what.length tc, .int .i64 most] w12 fun e w' => ∃ eb J, e = .returned (.tuple #[.pointer (some ⟨eb, 0, none⟩), .nilIface]) ∧ CC.K w12 w' (purgeP p (fun i => way p.wires i rn)) what most (newC (purgeP p (fun i => way p.wires i rn))) eb J := by
    have := CC.new (prgP p rn) _ _ _ _ what most w12 (HG.out w12 hx12.below) hpl12 (HW.out.every hx12.below) hcq
    rw [HQ.out] at this ⊢
    exact this
  have hcq2 : carE (purgeP p (fun i => way p.wires i rn)) what most = 0 := by
    have := hcq
    rw [HQ.out] at this
    exact this
  have hlb : ((what.length : Int) != (p.code.length : Int)) = false := by rw [HLen.out]; simp
  have hlb2 : (what.length != p.code.length) = false := by rw [HLen.out]; simp
  clear k0 k1 k2 k3
  go_upto_region 20 with (go_at_call 13; refine q12.mono ?_; rintro e w13 ⟨eb, J, rfl, he13⟩; clear q12; have hx13 := hx12.step (CC.since he13); have k0 := hx13.c0)
  have s9 := (CC.since hK9).size
  have s10 := (CK.since hk10).size
  have s12 := b12.size
  have hC3 : C3 CC CK w8 w13 p (purgeP p (fun i => way p.wires i rn)) (.slice ca p.code.length cc) (.slice sa p.spans.length sc) (.slice wa p.wires.length wc') what most (newC p) (newK p) (newC (purgeP p (fun i => way p.wires i rn))) cb kb eb F H J := by
    have e9 := CC.since hK9
    have e10 := CK.since hk10
    refine ⟨CC.frame (CC.frame (CC.frame hK9 (KTouch.of (M := []) e10) (by simp)) (KTouch.of (M := []) b12) (by simp)) (KTouch.of (M := []) (CC.since he13)) (by simp), CK.lower e9 (CK.frame (CK.frame hk10 (KTouch.of (M := []) b12) (by simp)) (KTouch.of (M := []) (CC.since he13)) (by simp)), CC.lower (e9.trans ((e10.trans (b12.mono s10)).mono s9)) he13, fun g hg hm => ?_, fun g hg hm => ?_, fun g hg hm => ?_⟩
    · have := (CC.ge hK9 g hg).2
      have := (CK.ge hk10 g hm).1
      omega
    · have := (CC.ge hK9 g hg).2
      have := (CC.ge he13 g hm).1
      omega
    · have := (CK.ge hk10 g hg).2
      have := (CC.ge he13 g hm).1
      omega
  have hs8 := hx8.size
  have HG8 : Hid (G w8) := HG.out w8 hx8.below
  have KT0' : (newK p).time ≤ ((0 : Nat) : Int) := Int.le_refl _
  have HI0 : Hid (CInv p what most rn (newC p) (newK p) (newC (purgeP p (fun i => way p.wires i rn))) false) := cinv_new rn hc
  clear hK9 hk10 he13 hx9 hx10 hx12 hpl11 hpl12 b11 b12 hB12 m0 m1 m2 m3 k0 s9 s10 s12 hlb hlb2 HKn HPg HN hx8 hcq
  generalize newC p = d0 at *
  generalize newK p = kk0 at *
  generalize newC (purgeP p (fun i => way p.wires i rn)) = ee0 at *
  go_wp2_with fail
  go_loopw [25, 26] (fun s25 s26 wr => ∃ (i : Nat) (d : CD) (k : KD) (e : CD) (b : Bool) (F H J : List Nat), i ≤ 120 ∧ s26 = .int .i64 i ∧ s25 = .bool b ∧ CInv p what most rn d k e b ∧ k.time ≤ (i : Int) ∧ C3 CC CK w8 wr p (purgeP p (fun i => way p.wires i rn)) (.slice ca p.code.length cc) (.slice sa p.spans.length sc) (.slice wa p.wires.length wc') what most d k e cb kb eb F H J ∧ Bx w wr (.slice ca p.code.length cc) p.ticks (.slice sa p.spans.length sc) (.slice wa p.wires.length wc')) (fun _ s _ => 120 - (intOf s).toNat)
  case atStart => exact ⟨0, d0, kk0, ee0, false, F, H, J, Nat.zero_le _, rfl, rfl, HI0.out, KT0', hC3, hx13⟩
  case round =>
  clear hC3 hx13
  obtain ⟨i, d, k, e, b, F1, H1, J1, hi, rfl, rfl, hI, hkt, hC3, hx⟩ := hrel
  by_cases hin : (i : Int) < n
  case neg =>
    have hin' : decide ((i : Int) < n) = false := decide_eq_false hin
    go_wp2
    go_ret
    exact ⟨rfl, hx.below⟩
  by_cases hi12 : i < 120
  case neg =>
    obtain rfl : i = 120 := by omega
    rw [show ((120 : Nat) : Int) = 120 from rfl] at hin
    go_wp2
    go_ret
    exact ⟨rfl, hx.below⟩
  have hi1 : (i : Int) < 120 := by omega
  obtain ⟨hIt, hIe⟩ := cinv_tick hc hI
  obtain ⟨⟨x1, x2, x3, x4⟩, hxe⟩ : ∃ z, evC p what most d = z := ⟨_, rfl⟩
  obtain ⟨⟨y1, y2, y3, y4⟩, hye⟩ : ∃ z, (tickK p p.spans k).2 = z := ⟨_, rfl⟩
  have HT : Hid (Calls Tryd.prog 14 #[.pointer (some ⟨cb, 0, none⟩)] wr fun r w2 => r = .returned (.agg #[.int .i64 x1, .int .i64 x2, .int .i64 x3, .int .i64 x4]) ∧ KTouch F1 wr w2 ∧ ∀ w3, Below w2.heap.size w2 w3 → Calls Tryd.prog 18 #[.pointer (some ⟨kb, 0, none⟩)] w3 fun r w4 => r = .returned (.agg #[.int .i64 y1, .int .i64 y2, .int .i64 y3, .int .i64 y4]) ∧ KTouch H1 w3 w4 ∧ ∀ w5, Below w4.heap.size w4 w5 → Calls Tryd.prog 14 #[.pointer (some ⟨eb, 0, none⟩)] w5 fun r w' => (∃ a b c x, r = .returned (.agg #[.int .i64 a, .int .i64 b, .int .i64 c, .int .i64 x])) ∧ KTouch J1 w5 w' ∧ ∃ F' H' J', C3 CC CK w8 w' p (purgeP p (fun i => way p.wires i rn)) (.slice ca p.code.length cc) (.slice sa p.spans.length sc) (.slice wa p.wires.length wc') what most (tickC p what most d) (tickK p p.spans k).1 (tickC (purgeP p (fun i => way p.wires i rn)) what most e) cb kb eb F' H' J') := by
    have h1 := hI.time
    have h2 := hI.sim.k.time
    have := c3_tick HG8.out hc hcq2 hI.dok hI.kok hI.eok (by omega) (by omega) (by omega) hC3
    rw [hxe, hye] at this
    exact this
  rw [hxe, hye] at hIe
  rw [hxe] at hIt
  have HIt : Hid (CInv p what most rn (tickC p what most d) (tickK p p.spans k).1 (tickC (purgeP p (fun i => way p.wires i rn)) what most e) (b || decide (x4 = 4))) := hIt
  have HIe : Hid ((b || decide (x4 = 4)) = false → (x1, x2, x3, x4) = (y1, y2, y3, y4)) := hIe
  have HKt : Hid ((tickK p p.spans k).1.time ≤ (i : Int) + 1) := by
    show _ ≤ _
    rw [tick_time]
    omega
  have gF := fun g hg => CC.ge hC3.c g hg
  have gH := fun g hg => CK.ge hC3.k g hg
  have gJ := fun g hg => CC.ge hC3.e g hg
  clear hIt hIe hxe hye hI hkt hC3
  have hsx := hx.size
  go_upto_region 25 with (go_at_call 14; refine HT.out.mono ?_; rintro rr w2 ⟨rfl, tk2, hn2⟩)
  clear HT
  have s2 := tk2.size
  have hA3 : Below w2.heap.size w2 (w2.alloc (.cells #[.int .i64 x1, .int .i64 x2, .int .i64 x3, .int .i64 x4] 45)) := (Below.refl _ _).alloc (Nat.le_refl _) _
  have hX3 : (w2.alloc (.cells #[.int .i64 x1, .int .i64 x2, .int .i64 x3, .int .i64 x4] 45)).heap[w2.heap.size]? = some (.cells #[.int .i64 x1, .int .i64 x2, .int .i64 x3, .int .i64 x4] 45) := World.alloc_heap_new _ _
  have s3 : (w2.alloc (.cells #[.int .i64 x1, .int .i64 x2, .int .i64 x3, .int .i64 x4] 45)).heap.size = w2.heap.size + 1 := by simp
  generalize w2.alloc (.cells #[.int .i64 x1, .int .i64 x2, .int .i64 x3, .int .i64 x4] 45) = w3 at hA3 hX3 s3 ⊢
  have HN3 := hn2 w3 hA3
  clear hn2
  go_upto_region 26 with (go_at_call 18; refine HN3.mono ?_; rintro rr w4 ⟨rfl, tk4, hn4⟩; clear HN3)
  have s4 := tk4.size
  have hX4 := (tk4.block w2.heap.size (by omega) (fun hm => by have := (gH _ hm).2; omega)).trans hX3
  have hA5 : Below w4.heap.size w4 (w4.alloc (.cells #[.int .i64 y1, .int .i64 y2, .int .i64 y3, .int .i64 y4] 45)) := (Below.refl _ _).alloc (Nat.le_refl _) _
  have hY5 : (w4.alloc (.cells #[.int .i64 y1, .int .i64 y2, .int .i64 y3, .int .i64 y4] 45)).heap[w4.heap.size]? = some (.cells #[.int .i64 y1, .int .i64 y2, .int .i64 y3, .int .i64 y4] 45) := World.alloc_heap_new _ _
  have s5 : (w4.alloc (.cells #[.int .i64 y1, .int .i64 y2, .int .i64 y3, .int .i64 y4] 45)).heap.size = w4.heap.size + 1 := by simp
  generalize w4.alloc (.cells #[.int .i64 y1, .int .i64 y2, .int .i64 y3, .int .i64 y4] 45) = w5 at hA5 hY5 s5 ⊢
  have hX5 := (hA5.block w2.heap.size (by omega)).trans hX4
  have HN5 := hn4 w5 hA5
  clear hn4
  go_upto_region 27 with (go_at_call 14; refine HN5.mono ?_; rintro rr w6 ⟨⟨za, zb, zc, zd, rfl⟩, tk6, F2, H2, J2, hC6⟩; clear HN5)
  have s6 := tk6.size
  have hX6 := (tk6.block w2.heap.size (by omega) (fun hm => by have := (gJ _ hm).2; omega)).trans hX5
  have hY6 := (tk6.block w4.heap.size (by omega) (fun hm => by have := (gJ _ hm).2; omega)).trans hY5
  have hx6 : Bx w w6 (.slice ca p.code.length cc) p.ticks (.slice sa p.spans.length sc) (.slice wa p.wires.length wc') := Below.trans (Below.trans (Below.trans (Below.trans (Below.trans hx (tk2.below (fun m hm => by have := (gF m hm).1; omega) hx.size)) (hA3.mono (by omega))) (tk4.below (fun m hm => by have := (gH m hm).1; omega) (by omega))) (hA5.mono (by omega))) (tk6.below (fun m hm => by have := (gJ m hm).1; omega) (by omega))
  clear hX5 hX4 hX3 hY5 hA3 hA5 tk2 tk4 tk6 gF gH gJ hx
  have ex3 : w6.cell? ⟨w2.heap.size, 3, none⟩ = some (.int .i64 x4) := by simp [World.cell?, hX6]
  obtain ⟨b', hb'⟩ : ∃ z, (b || decide (x4 = 4)) = z := ⟨_, rfl⟩
  rw [hb'] at HIt HIe
  go_cut [25] from 141 to 250 (fun s25 wx => s25 = .bool b' ∧ wx = w6)
  case first =>
    cases b with
    | true =>
      have HX : Hid (b' = true) := by show _ = _; rw [← hb']; rfl
      clear hb'
      go_wp2_with fail
      go_meet
      case rel => exact ⟨by rw [HX.out], rfl⟩
    | false =>
      have hq : (x4 == 4) = b' := by rw [← hb']; by_cases h : x4 = 4 <;> simp [h]
      clear hb'
      go_wp2_with fail
      go_meet
      case rel => exact ⟨rfl, rfl⟩
  case rest =>
  obtain ⟨rfl, hwx⟩ := hcut
  rw [hwx]
  clear hwx hb' ex3
  go_upto_region 28 with fail
  go_cut [168] from 141 to 250 (fun s168 wx => s168 = .bool false ∧ wx = w6)
  case first =>
    by_cases hbb : b' = true
    · have hq : (!b') = false := by rw [hbb]; rfl
      clear hbb
      go_wp2_with fail
      go_meet
      case rel => exact ⟨rfl, rfl⟩
    · have hb0 : b' = false := by simpa using hbb
      have he := HIe.out hb0
      have hq : (!b') = true := by rw [hb0]; rfl
      clear hbb hb0
      simp only [Prod.mk.injEq] at he
      obtain ⟨rfl, rfl, rfl, rfl⟩ := he
      have ex0 : w6.cell? ⟨w2.heap.size, 0, none⟩ = some (.int .i64 x1) := by simp [World.cell?, hX6]
      have ex1 : w6.cell? ⟨w2.heap.size, 1, none⟩ = some (.int .i64 x2) := by simp [World.cell?, hX6]
      have ex2 : w6.cell? ⟨w2.heap.size, 2, none⟩ = some (.int .i64 x3) := by simp [World.cell?, hX6]
      have ex3 : w6.cell? ⟨w2.heap.size, 3, none⟩ = some (.int .i64 x4) := by simp [World.cell?, hX6]
      have ey0 : w6.cell? ⟨w4.heap.size, 0, none⟩ = some (.int .i64 x1) := by simp [World.cell?, hY6]
      have ey1 : w6.cell? ⟨w4.heap.size, 1, none⟩ = some (.int .i64 x2) := by simp [World.cell?, hY6]
      have ey2 : w6.cell? ⟨w4.heap.size, 2, none⟩ = some (.int .i64 x3) := by simp [World.cell?, hY6]
      have ey3 : w6.cell? ⟨w4.heap.size, 3, none⟩ = some (.int .i64 x4) := by simp [World.cell?, hY6]
      have hev := neq_ev x1 x2 x3 x4
      have hge := guardEv
      go_wp2_with fail
      go_meet
      case rel => exact ⟨rfl, rfl⟩
  case rest =>
  obtain ⟨rfl, hwx⟩ := hcut
  rw [hwx]
  clear hwx hX6 hY6 HIe
  go_step
  obtain ⟨d', hd'⟩ : ∃ z, tickC p what most d = z := ⟨_, rfl⟩
  obtain ⟨k', hk'⟩ : ∃ z, (tickK p p.spans k).1 = z := ⟨_, rfl⟩
  obtain ⟨e', he'⟩ : ∃ z, tickC (purgeP p (fun i => way p.wires i rn)) what most e = z := ⟨_, rfl⟩
  rw [hd', hk', he'] at HIt hC6
  rw [hk'] at HKt
  clear hd' hk' he'
  obtain ⟨r1, r2, r3, r4⟩ := cinv_room HIt.out hrn
  obtain ⟨s, hs⟩ : ∃ z, roomK d'.k rn = z := ⟨_, rfl⟩
  obtain ⟨tm, htm⟩ : ∃ z, timesC d' rn = z := ⟨_, rfl⟩
  have HSc : Hid (∀ W, Below w6.heap.size w6 W → Calls Tryd.prog 19 #[.pointer (some ⟨cb, 0, none⟩), .int .i64 rn] W fun r w' => r = .returned (.tuple #[.agg #[.int .i64 s.p, .int .i64 (s.c 0), .int .i64 (s.c 1), .int .i64 (s.c 2), .int .i64 (s.c 3), .int .i64 (s.c 4), .int .i64 (s.c 5), .bool s.f], .nilIface]) ∧ Below W.heap.size W w') := fun W hb => by
    have := CC.state rn (hC6.all hb).c HIt.out.dok hc
    rw [r1, hs] at this
    exact this
  have HSe : Hid (∀ W, Below w6.heap.size w6 W → Calls Tryd.prog 19 #[.pointer (some ⟨eb, 0, none⟩), .int .i64 rn] W fun r w' => r = .returned (.tuple #[.agg #[.int .i64 s.p, .int .i64 (s.c 0), .int .i64 (s.c 1), .int .i64 (s.c 2), .int .i64 (s.c 3), .int .i64 (s.c 4), .int .i64 (s.c 5), .bool s.f], .nilIface]) ∧ Below W.heap.size W w') := fun W hb => by
    have := CC.state rn (hC6.all hb).e HIt.out.eok hcq2
    rw [r2, r3, hs] at this
    exact this
  have HTc : Hid (∀ W, Below w6.heap.size w6 W → Calls Tryd.prog 15 #[.pointer (some ⟨cb, 0, none⟩), .int .i64 rn] W fun r w' => r = .returned (.tuple #[.int .i64 tm, .nilIface]) ∧ Below W.heap.size W w') := fun W hb => by
    have := CC.times rn (hC6.all hb).c HIt.out.dok hc
    rw [r1, htm] at this
    exact this
  have HTe : Hid (∀ W, Below w6.heap.size w6 W → Calls Tryd.prog 15 #[.pointer (some ⟨eb, 0, none⟩), .int .i64 rn] W fun r w' => r = .returned (.tuple #[.int .i64 tm, .nilIface]) ∧ Below W.heap.size W w') := fun W hb => by
    have := CC.times rn (hC6.all hb).e HIt.out.eok hcq2
    rw [r2, r4, htm] at this
    exact this
  clear r1 r2 r3 r4 hs htm
  have HC6 : Hid (C3 CC CK w8 w6 p (purgeP p (fun i => way p.wires i rn)) (.slice ca p.code.length cc) (.slice sa p.spans.length sc) (.slice wa p.wires.length wc') what most d' k' e' cb kb eb F2 H2 J2) := hC6
  have HX6 : Hid (Bx w w6 (.slice ca p.code.length cc) p.ticks (.slice sa p.spans.length sc) (.slice wa p.wires.length wc')) := hx6
  clear hC6 hx6
  have q30 := HSc.out w6 (Below.refl _ _)
  go_upto_region 31 with (go_at_call 19; refine q30.mono ?_; rintro rr wa ⟨rfl, ba⟩; clear q30)
  have hSa : (wa.alloc (.cells #[.int .i64 s.p, .int .i64 (s.c 0), .int .i64 (s.c 1), .int .i64 (s.c 2), .int .i64 (s.c 3), .int .i64 (s.c 4), .int .i64 (s.c 5), .bool s.f] 39)).heap[wa.heap.size]? = some (.cells #[.int .i64 s.p, .int .i64 (s.c 0), .int .i64 (s.c 1), .int .i64 (s.c 2), .int .i64 (s.c 3), .int .i64 (s.c 4), .int .i64 (s.c 5), .bool s.f] 39) := World.alloc_heap_new _ _
  have bA : Below w6.heap.size w6 (wa.alloc (.cells #[.int .i64 s.p, .int .i64 (s.c 0), .int .i64 (s.c 1), .int .i64 (s.c 2), .int .i64 (s.c 3), .int .i64 (s.c 4), .int .i64 (s.c 5), .bool s.f] 39)) := ba.alloc ba.size _
  have sA : (wa.alloc (.cells #[.int .i64 s.p, .int .i64 (s.c 0), .int .i64 (s.c 1), .int .i64 (s.c 2), .int .i64 (s.c 3), .int .i64 (s.c 4), .int .i64 (s.c 5), .bool s.f] 39)).heap.size = wa.heap.size + 1 := by simp
  generalize wa.alloc (.cells #[.int .i64 s.p, .int .i64 (s.c 0), .int .i64 (s.c 1), .int .i64 (s.c 2), .int .i64 (s.c 3), .int .i64 (s.c 4), .int .i64 (s.c 5), .bool s.f] 39) = wA at hSa bA sA ⊢
  generalize wa.heap.size = sa1 at hSa sA ⊢
  have q31 := HSe.out wA bA
  go_upto_region 32 with (go_at_call 19; refine q31.mono ?_; rintro rr wb ⟨rfl, bb⟩; clear q31)
  have sbb := bb.size
  have hSa2 := (bb.block sa1 (by omega)).trans hSa
  have hSb : (wb.alloc (.cells #[.int .i64 s.p, .int .i64 (s.c 0), .int .i64 (s.c 1), .int .i64 (s.c 2), .int .i64 (s.c 3), .int .i64 (s.c 4), .int .i64 (s.c 5), .bool s.f] 39)).heap[wb.heap.size]? = some (.cells #[.int .i64 s.p, .int .i64 (s.c 0), .int .i64 (s.c 1), .int .i64 (s.c 2), .int .i64 (s.c 3), .int .i64 (s.c 4), .int .i64 (s.c 5), .bool s.f] 39) := World.alloc_heap_new _ _
  have bB : Below w6.heap.size w6 (wb.alloc (.cells #[.int .i64 s.p, .int .i64 (s.c 0), .int .i64 (s.c 1), .int .i64 (s.c 2), .int .i64 (s.c 3), .int .i64 (s.c 4), .int .i64 (s.c 5), .bool s.f] 39)) := (bA.trans (bb.mono bA.size)).alloc (Nat.le_trans bA.size bb.size) _
  have hSa3 := (((Below.refl _ wb).alloc (Nat.le_refl _) (.cells #[.int .i64 s.p, .int .i64 (s.c 0), .int .i64 (s.c 1), .int .i64 (s.c 2), .int .i64 (s.c 3), .int .i64 (s.c 4), .int .i64 (s.c 5), .bool s.f] 39)).block sa1 (by omega)).trans hSa2
  have sB : (wb.alloc (.cells #[.int .i64 s.p, .int .i64 (s.c 0), .int .i64 (s.c 1), .int .i64 (s.c 2), .int .i64 (s.c 3), .int .i64 (s.c 4), .int .i64 (s.c 5), .bool s.f] 39)).heap.size = wb.heap.size + 1 := by simp
  generalize wb.alloc (.cells #[.int .i64 s.p, .int .i64 (s.c 0), .int .i64 (s.c 1), .int .i64 (s.c 2), .int .i64 (s.c 3), .int .i64 (s.c 4), .int .i64 (s.c 5), .bool s.f] 39) = wB at hSb bB hSa3 sB ⊢
  generalize hsb1 : wb.heap.size = sb1 at hSb sB sbb ⊢
  have q32 := HTc.out wB bB
  go_upto_region 33 with (go_at_call 15; refine q32.mono ?_; rintro rr wC ⟨rfl, bC0⟩; clear q32)
  have bC := bB.trans (bC0.mono bB.size)
  have q33 := HTe.out wC bC
  go_upto_region 34 with (go_at_call 15; refine q33.mono ?_; rintro rr wD ⟨rfl, bD0⟩; clear q33)
  have bD := bC.trans (bD0.mono bC.size)
  have bBD := bC0.trans (bD0.mono bC0.size)
  have hSa4 := (bBD.block sa1 (by omega)).trans hSa3
  have hSb4 := (bBD.block sb1 (by omega)).trans hSb
  have ca0 : wD.cell? ⟨sa1, 0, none⟩ = some (.int .i64 s.p) := by simp [World.cell?, hSa4]
  have ca1 : wD.cell? ⟨sa1, 1, none⟩ = some (.int .i64 (s.c 0)) := by simp [World.cell?, hSa4]
  have ca2 : wD.cell? ⟨sa1, 2, none⟩ = some (.int .i64 (s.c 1)) := by simp [World.cell?, hSa4]
  have ca3 : wD.cell? ⟨sa1, 3, none⟩ = some (.int .i64 (s.c 2)) := by simp [World.cell?, hSa4]
  have ca4 : wD.cell? ⟨sa1, 4, none⟩ = some (.int .i64 (s.c 3)) := by simp [World.cell?, hSa4]
  have ca5 : wD.cell? ⟨sa1, 5, none⟩ = some (.int .i64 (s.c 4)) := by simp [World.cell?, hSa4]
  have ca6 : wD.cell? ⟨sa1, 6, none⟩ = some (.int .i64 (s.c 5)) := by simp [World.cell?, hSa4]
  have ca7 : wD.cell? ⟨sa1, 7, none⟩ = some (.bool s.f) := by simp [World.cell?, hSa4]
  have cb0 : wD.cell? ⟨sb1, 0, none⟩ = some (.int .i64 s.p) := by simp [World.cell?, hSb4]
  have cb1 : wD.cell? ⟨sb1, 1, none⟩ = some (.int .i64 (s.c 0)) := by simp [World.cell?, hSb4]
  have cb2 : wD.cell? ⟨sb1, 2, none⟩ = some (.int .i64 (s.c 1)) := by simp [World.cell?, hSb4]
  have cb3 : wD.cell? ⟨sb1, 3, none⟩ = some (.int .i64 (s.c 2)) := by simp [World.cell?, hSb4]
  have cb4 : wD.cell? ⟨sb1, 4, none⟩ = some (.int .i64 (s.c 3)) := by simp [World.cell?, hSb4]
  have cb5 : wD.cell? ⟨sb1, 5, none⟩ = some (.int .i64 (s.c 4)) := by simp [World.cell?, hSb4]
  have cb6 : wD.cell? ⟨sb1, 6, none⟩ = some (.int .i64 (s.c 5)) := by simp [World.cell?, hSb4]
  have cb7 : wD.cell? ⟨sb1, 7, none⟩ = some (.bool s.f) := by simp [World.cell?, hSb4]
  have hnq := neq_st s.p (s.c 0) (s.c 1) (s.c 2) (s.c 3) (s.c 4) (s.c 5) s.f
  have hgd := guardSt
  clear hSa hSa2 hSa3 hSa4 hSb hSb4 bC0 bD0 bBD
  go_upto_region 36 with fail
  clear hnq hgd ca0 cb0 ca1 cb1 ca2 cb2 ca3 cb3 ca4 cb4 ca5 cb5 ca6 cb6 ca7 cb7
  have HBD : Hid (Below w6.heap.size w6 wD) := bD
  go_wp2_with fail
  go_loopw [37] (fun s37 wr2 => ∃ j : Nat, j ≤ what.length ∧ s37 = .int .i64 j ∧ Below w6.heap.size w6 wr2) (fun s _ => what.length - (intOf s).toNat)
  case atStart => exact ⟨0, Nat.zero_le _, rfl, HBD.out⟩
  case round =>
  rename World => wI
  obtain ⟨j, hj, rfl, hbj⟩ := hrel
  by_cases hjl : j < what.length
  case neg =>
    have hjl' : decide ((j : Int) < (what.length : Int)) = false := decide_eq_false (by omega)
    have hjn : decide (j < what.length) = false := decide_eq_false hjl
    go_wp2
    go_roundw
    case rel => exact ⟨i + 1, d', k', e', b', F2, H2, J2, by omega, by go_num, rfl, HIt.out, by have := HKt.out; omega, HC6.out.all hbj, HX6.out.step hbj⟩
    case measure => simp [intOf]; omega
  have hji : (j : Int) < (what.length : Int) := by omega
  have hjp : j < p.code.length := by rw [← HLen.out]; exact hjl
  have hj5 : j < 5 := by have := (plchk_zero hp).1; omega
  have hjt : j < d'.ts.length := by rw [HIt.out.dok.tl]; exact hjp
  have hno : noRoom d'.k j = false := by
    unfold noRoom
    rw [HIt.out.dok.k.rl, Bool.or_eq_false_iff]
    exact ⟨decide_eq_false (by omega), decide_eq_false (by omega)⟩
  obtain ⟨t, ht⟩ : ∃ z, timesC d' j = z := ⟨_, rfl⟩
  have hte : t = d'.ts[j] := by
    rw [← ht]
    unfold timesC
    rw [hno, if_neg (by decide), Int.toNat_natCast]
    simp [List.getD, hjt]
  obtain ⟨t0, t1, t2⟩ := HIt.out.dok.ts j t (by rw [hte]; exact List.getElem?_eq_getElem hjt)
  have hbw := HX6.out.below.trans (hbj.mono HX6.out.below.size)
  obtain ⟨lb, lo, xv, rfl, hxc, hlx⟩ := HW.out.at hbw hjl
  have hwx : what.getD j 0 = xv := by simp [List.getD, hlx]
  rw [hwx] at t2
  have HTj : Hid (Calls Tryd.prog 15 #[.pointer (some ⟨cb, 0, none⟩), .int .i64 j] wI fun r w' => r = .returned (.tuple #[.int .i64 t, .nilIface]) ∧ Below wI.heap.size wI w') := by
    have := CC.times j (HC6.out.all hbj).c HIt.out.dok hc
    rw [hno, ht] at this
    exact this
  have hq1 : decide (t < 0) = false := decide_eq_false (by omega)
  have hq2 : decide (most < t) = false := decide_eq_false (by omega)
  have hlbt : lb < wI.heap.size := World.block_lt_of_cell? wI ⟨lb, lo + j, none⟩ hxc
  clear hno ht hte hlx hwx hjp hjt
  by_cases hx0 : xv = 0
  · obtain rfl : t = 0 := t2 (by omega)
    subst hx0
    clear t0 t1 t2 hq1
    have hq1 : decide ((0 : Int) < 0) = false := rfl
    go_wp2_with (go_at_call 15; refine HTj.out.mono ?_; rintro rr wJ ⟨rfl, bJ⟩; have hxc2 := (bJ.cell (p := ⟨lb, lo + j, none⟩) hlbt).trans hxc)
    go_roundw
    case rel => exact ⟨j + 1, by omega, by go_num, hbj.trans (bJ.mono hbj.size)⟩
    case measure => simp [intOf]; omega
  · have hq3 : (xv == 0) = false := by simpa using hx0
    clear t0 t1 t2 hx0
    go_wp2_with (go_at_call 15; refine HTj.out.mono ?_; rintro rr wJ ⟨rfl, bJ⟩; have hxc2 := (bJ.cell (p := ⟨lb, lo + j, none⟩) hlbt).trans hxc)
    go_roundw
    case rel => exact ⟨j + 1, by omega, by go_num, hbj.trans (bJ.mono hbj.size)⟩
    case measure => simp [intOf]; omega
end Go.Proofs.YteoemcekkcnplafDoor
