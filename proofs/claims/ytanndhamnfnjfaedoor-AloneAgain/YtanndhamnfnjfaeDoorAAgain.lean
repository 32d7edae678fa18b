/-
  The law AloneAgain: the walk, under what package alone does.
-/
import Derived.Test.YtanndhamnfnjfaeDoorJa8
import Derived.Test.YtanndhamnfnjfaeDoorStTwo
import Derived.Test.YtanndhamnfnjfaeDoorJa1
import Derived.Deep.CutRange
import Derived.Deep.CutBlock
import Derived.Deep.RegionWith
import Derived.Deep.RegionHeld3
import Derived.BigQuiet
import Derived.RangeFuncNested
namespace Go.Proofs.YtanndhamnfnjfaeDoor
open Go.RowKit

set_option maxRecDepth 100000 in
set_option maxHeartbeats 16000000 in
theorem aagain_of {G : World → Prop} (C : AlnC G) (hE : ∀ (e : Int) (W : World), G W → Calls Tryd.prog 21 #[wErr e, .int .i64 e] W fun r w' => r = .returned (.bool true) ∧ Below W.heap.size W w')
    (p : PD) (vc vs vw v : Value) (r : Int) (l : List Int) (w : World) (hG : G w) (hP : Pln w vc vs vw p) (hl : Stp w v l) :
    Calls Tryd.prog 6 #[plV vc p.ticks vs vw, .int .i64 r, v] w fun e w' => e = .returned (.bool true) ∧ Below w.heap.size w w' := by
  obtain ⟨ca, cc, rfl⟩ := hP.code.form
  obtain ⟨sa, sc, rfl⟩ := hP.spans.form
  obtain ⟨wa, wc', rfl⟩ := hP.wires.form
  obtain ⟨la, lc, hlv⟩ : ∃ ao cap, v = .slice ao l.length cap := by
    rcases hl with ⟨rfl, ao, cap, rfl⟩ | ⟨b, off, cap, rfl, _⟩
    · exact ⟨ao, cap, rfl⟩
    · exact ⟨_, cap, rfl⟩
  subst hlv
  have hx0 := Bx.first w (.slice ca p.code.length cc) p.ticks (.slice sa p.spans.length sc) (.slice wa p.wires.length wc')
  have HP : Hid (Pln w (.slice ca p.code.length cc) (.slice sa p.spans.length sc) (.slice wa p.wires.length wc') p) := hP
  have HG : Hid (∀ W, Below w.heap.size w W → G W) := fun W hb => C.all w W hG hb
  have HE : Hid (∀ W, Below w.heap.size w W → Calls Tryd.prog 21 #[.iface 71 (.int .i64 1), .int .i64 1] W fun r w' => r = .returned (.bool true) ∧ Below W.heap.size W w') := fun W hb => hE 1 W (HG.out W hb)
  have HL : Hid (Stp w (.slice la l.length lc) l) := hl
  unfold plV
  clear hP hG hE hl
  go_enter Tryd.func6, Tryd.ntmps6
  go_upto_region 1 with fail
  generalize hWA : w.alloc (.cells #[.slice ca p.code.length cc, .int .i64 p.ticks, .slice sa p.spans.length sc, .slice wa p.wires.length wc'] 26) = WA at hx0 ⊢
  clear hWA
  have hpl := toyA_pln WA WA.heap.size rfl
  have hB1 : Below WA.heap.size WA ((((WA.alloc (.cells #[.int .i64 9, .int .i64 3, .int .i64 0] 38)).alloc (.cells #[.int .i64 10, .int .i64 0, .int .i64 0] 38)).alloc (.cells #[.slice (some ⟨WA.heap.size, 0, none⟩) 1 1, .slice (some ⟨WA.heap.size + 1, 0, none⟩) 1 1] 39)).alloc (.cells #[.int .i64 1, .int .i64 0, .int .i64 1, .int .i64 1] 58)) := ((((Below.refl _ _).alloc (Nat.le_refl _) _).alloc (by simp) _).alloc (by simp; omega) _).alloc (by simp; omega) _
  have q1 : Calls Tryd.prog 17 #[.agg #[.slice (some ⟨WA.heap.size + 2, 0, none⟩) 2 2, .int .i64 1, .slice none 0 0, .slice (some ⟨WA.heap.size + 3, 0, none⟩) 1 1], .int .i64 0] ((((WA.alloc (.cells #[.int .i64 9, .int .i64 3, .int .i64 0] 38)).alloc (.cells #[.int .i64 10, .int .i64 0, .int .i64 0] 38)).alloc (.cells #[.slice (some ⟨WA.heap.size, 0, none⟩) 1 1, .slice (some ⟨WA.heap.size + 1, 0, none⟩) 1 1] 39)).alloc (.cells #[.int .i64 1, .int .i64 0, .int .i64 1, .int .i64 1] 58)) fun e w' => ∃ ob F, e = .returned (.tuple #[.pointer (some ⟨ob, 0, none⟩), .nilIface]) ∧ C.A WA w' (newA toyA 0) ob F := by
    refine (C.new toyA _ _ _ 0 _ (HG.out _ (hx0.step hB1).below) hpl toyA_ok).mono ?_
    rintro e w' ⟨ab, F, rfl, h⟩
    exact ⟨ab, F, rfl, C.lower hB1 h⟩
  have HG0 : Hid (G WA) := HG.out WA hx0.below
  clear hpl hB1
  go_upto_region 4 with (go_at_call 17; refine q1.mono ?_; rintro e w1 ⟨ob, F0, rfl, hA0⟩; clear q1)
  have q2 : Calls Tryd.prog 18 #[.pointer (some ⟨ob, 0, none⟩), .int .i64 9, .bool true] w1 fun e w' => e = .returned (.tuple #[.agg #[.int .i64 0, .int .i64 0, .int .i64 0, .int .i64 2], .int .i64 (-1), .nilIface]) ∧ ∃ F, C.A WA w' (stepA (newA toyA 0) 9 true) ob F := by
    refine (C.step 9 true HG0.out hA0 (newA_ok toyA_ok) (fun h => by have := h.2; omega) (by decide)).mono ?_
    rintro e w' ⟨rfl, F', h, _, _⟩
    rw [toyA_ev, toyA_sent]
    exact ⟨rfl, F', h⟩
  clear hA0
  go_upto_region 5 with (go_at_call 18; refine q2.mono ?_; rintro e w2 ⟨rfl, F1, hA1⟩; clear q2)
  have hA2 := C.frame hA1 (KTouch.of (M := []) ((Below.refl _ w2).alloc (Nat.le_refl _) (.cells #[.int .i64 0, .int .i64 0, .int .i64 0, .int .i64 2] 60))) (by simp)
  clear hA1
  have e3 : (w2.alloc (.cells #[.int .i64 0, .int .i64 0, .int .i64 0, .int .i64 2] 60)).cell? ⟨w2.heap.size, 3, none⟩ = some (.int .i64 2) := by simp
  have hlt2 : w2.heap.size < (w2.alloc (.cells #[.int .i64 0, .int .i64 0, .int .i64 0, .int .i64 2] 60)).heap.size := by simp
  generalize hE2 : w2.heap.size = eb at e3 hlt2 ⊢
  clear hE2
  generalize w2.alloc (.cells #[.int .i64 0, .int .i64 0, .int .i64 0, .int .i64 2] 60) = w3 at hA2 e3 hlt2 ⊢
  have q3 : Calls Tryd.prog 19 #[.pointer (some ⟨ob, 0, none⟩)] w3 fun e w' => (∃ s : St, s.c 3 = 9 ∧ e = .returned (.agg #[.int .i64 s.p, .int .i64 (s.c 0), .int .i64 (s.c 1), .int .i64 (s.c 2), .int .i64 (s.c 3), .int .i64 (s.c 4), .int .i64 (s.c 5), .bool s.f])) ∧ Below w3.heap.size w3 w' := by
    refine (C.state hA2).mono ?_
    rintro e w' ⟨rfl, h⟩
    exact ⟨⟨_, toyA_cell, rfl⟩, h⟩
  go_upto_region 6 with (go_at_call 19; refine q3.mono ?_; rintro e w4 ⟨⟨s, hs3, rfl⟩, b4⟩; clear q3)
  have b5 : Below w3.heap.size w3 (w4.alloc (.cells #[.int .i64 s.p, .int .i64 (s.c 0), .int .i64 (s.c 1), .int .i64 (s.c 2), .int .i64 9, .int .i64 (s.c 4), .int .i64 (s.c 5), .bool s.f] 35)) := b4.alloc b4.size _
  have f3 := (b5.cell (p := ⟨eb, 3, none⟩) hlt2).trans e3
  have f4 : (w4.alloc (.cells #[.int .i64 s.p, .int .i64 (s.c 0), .int .i64 (s.c 1), .int .i64 (s.c 2), .int .i64 9, .int .i64 (s.c 4), .int .i64 (s.c 5), .bool s.f] 35)).cell? ⟨w4.heap.size, 4, none⟩ = some (.int .i64 9) := by simp
  have hA5 := C.frame hA2 (KTouch.of (M := []) b5) (by simp)
  have hx5 := (hx0.step (C.since hA2)).step b5
  generalize w4.heap.size = sb at f4 ⊢
  generalize w4.alloc (.cells #[.int .i64 s.p, .int .i64 (s.c 0), .int .i64 (s.c 1), .int .i64 (s.c 2), .int .i64 9, .int .i64 (s.c 4), .int .i64 (s.c 5), .bool s.f] 35) = w5 at f3 f4 hA5 hx5 ⊢
  clear b5 hA2 e3 hlt2 b4 hs3 hx0
  have q4 : Calls Tryd.prog 20 #[.pointer (some ⟨ob, 0, none⟩)] w5 fun e w' => e = .returned (.int .i64 1) ∧ Below w5.heap.size w5 w' := by
    refine (C.turns hA5).mono ?_
    rintro e w' ⟨rfl, k, rfl⟩
    rw [toyA_turns]
    exact ⟨rfl, below_dN (Below.refl _ _) _⟩
  clear hA5
  go_upto_region 8 with (go_at_call 20; refine q4.mono ?_; rintro e w6 ⟨rfl, b6⟩; clear q4)
  have hx6 := hx5.step b6
  clear hx5 b6 f3 f4
  have k0 := hx6.c0
  have k1 := hx6.c1
  have k2 := hx6.c2
  have k3 := hx6.c3
  by_cases hz : prgE p r = 0
  case neg =>
    have HN : Hid (∀ W, Below w.heap.size w W → Calls Tryd.prog 17 #[.agg #[.slice ca p.code.length cc, .int .i64 p.ticks, .slice sa p.spans.length sc, .slice wa p.wires.length wc'], .int .i64 r] W fun e w' => ∃ x, e = .returned (.tuple #[.pointer x, .iface 71 (.int .i64 (prgE p r))]) ∧ Below W.heap.size W w') := fun W hb => by
      have := C.no p _ _ _ r W (HG.out W hb) (HP.out.all hb) hz
      rw [wErr_not hz] at this
      exact this
    have q7 := HN.out w6 hx6.below
    go_wp2_with (first
      | (go_at_call 17; refine q7.mono ?_; rintro e w7 ⟨x7, rfl, b7⟩; clear q7 k0 k1 k2 k3; have hx7 := hx6.step b7; have k0 := hx7.c0; have k1 := hx7.c1; have k2 := hx7.c2; have k3 := hx7.c3; have q8 := HN.out w7 hx7.below)
      | (go_at_call 17; refine q8.mono ?_; rintro e w8 ⟨x8, rfl, b8⟩; clear q8))
    go_ret
    exact ⟨rfl, (hx7.step b8).below⟩
  have HN : Hid (∀ W, Below w.heap.size w W → Calls Tryd.prog 17 #[.agg #[.slice ca p.code.length cc, .int .i64 p.ticks, .slice sa p.spans.length sc, .slice wa p.wires.length wc'], .int .i64 r] W fun e w' => ∃ ab F, e = .returned (.tuple #[.pointer (some ⟨ab, 0, none⟩), .nilIface]) ∧ C.A W w' (newA p r) ab F) := fun W hb => C.new p _ _ _ r W (HG.out W hb) (HP.out.all hb) hz
  have HO : Hid (AOk (newA p r)) := newA_ok hz
  have HT0 : Hid ((newA p r).t = 0) := rfl
  have q7 := HN.out w6 hx6.below
  go_upto_region 12 with (first
    | (go_at_call 17; refine q7.mono ?_; rintro e w7 ⟨ab, F, rfl, hA⟩; clear q7 k0 k1 k2 k3; have hx7 := hx6.step (C.since hA); have k0 := hx7.c0; have k1 := hx7.c1; have k2 := hx7.c2; have k3 := hx7.c3; have q8 := HN.out w7 hx7.below)
    | (go_at_call 17; refine q8.mono ?_; rintro e w8 ⟨bb, H, rfl, hB⟩; clear q8))
  have hAA := aa_new hA hB
  have hs6 := hx6.size
  have HG6 : Hid (G w6) := HG.out w6 hx6.below
  have HB6 : Hid (Below w.heap.size w w6) := hx6.below
  clear hA hB hx6 hx7 k0 k1 k2 k3 HN hz
  generalize newA p r = x0 at *
  go_wp2_with fail
  go_loopw [16] (fun s16 wr => ∃ (i : Nat) (x : AD) (F H : List Nat), i ≤ l.length ∧ i ≤ 80 ∧ s16 = .int .i64 i ∧ x.t ≤ i ∧ AOk x ∧ AA C w6 wr x ab bb F H) (fun s _ => 80 - (intOf s).toNat)
  case atStart => exact ⟨0, x0, F, H, Nat.zero_le _, Nat.zero_le _, rfl, by rw [HT0.out]; exact Int.le_refl _, HO.out, hAA⟩
  case round =>
    clear hAA
    obtain ⟨i, x, F1, H1, hi, hi80, rfl, hxt, hxo, hAA⟩ := hrel
    have hb6 := C.since hAA.A
    by_cases hgo : i < l.length ∧ i < 80
    case neg =>
      have hb8 := HB6.out.trans (hb6.mono HB6.out.size)
      by_cases h1 : i < l.length
      · have h1' : (i : Int) < (l.length : Int) := by omega
        have h2 : decide ((i : Int) < 80) = false := decide_eq_false (by omega)
        have h3 : decide (i < 80) = false := decide_eq_false (by omega)
        go_wp2
        go_ret
        exact ⟨rfl, hb8⟩
      · have h1' : decide ((i : Int) < (l.length : Int)) = false := decide_eq_false (by omega)
        have h3 : decide (i < l.length) = false := decide_eq_false (by omega)
        go_wp2
        go_ret
        exact ⟨rfl, hb8⟩
    case pos =>
    have h1' : (i : Int) < (l.length : Int) := by omega
    have h2' : (i : Int) < 80 := by omega
    have hil := hgo.1
    have hi8 := hgo.2
    have hbw : Below w.heap.size w wr := HB6.out.trans (hb6.mono HB6.out.size)
    obtain ⟨lb, lo, xv, rfl, hlb, hcl⟩ := HL.out.at0 hil
    have hcr := (hbw.cell (p := ⟨lb, lo + i, none⟩) hlb).trans hcl
    obtain ⟨is, his⟩ : ∃ is, decide (0 ≤ xv) = is := ⟨_, rfl⟩
    clear hgo
    by_cases hgot : gotNo xv is
    case neg =>
      have HGot : Hid (¬ gotNo xv is) := hgot
      obtain ⟨⟨e1, e2, e3, e4⟩, he⟩ : ∃ e, evOf x is = e := ⟨_, rfl⟩
      obtain ⟨sn, hsn⟩ : ∃ n, sentA x = n := ⟨_, rfl⟩
      have HS : Hid (Calls Tryd.prog 18 #[.pointer (some ⟨ab, 0, none⟩), .int .i64 xv, .bool is] wr fun e w2 => e = .returned (.tuple #[.agg #[.int .i64 e1, .int .i64 e2, .int .i64 e3, .int .i64 e4], .int .i64 sn, .nilIface]) ∧ KTouch F1 wr w2 ∧ ∀ w3, Below w2.heap.size w2 w3 → Calls Tryd.prog 18 #[.pointer (some ⟨bb, 0, none⟩), .int .i64 1000, .bool true] w3 fun e w4 => e = .returned (.tuple #[.agg #[.int .i64 0, .int .i64 0, .int .i64 0, .int .i64 0], .int .i64 0, .iface 71 (.int .i64 1)]) ∧ Below w3.heap.size w3 w4 ∧ ∀ w5, Below w4.heap.size w4 w5 → Calls Tryd.prog 18 #[.pointer (some ⟨bb, 0, none⟩), .int .i64 xv, .bool is] w5 fun e w' => e = .returned (.tuple #[.agg #[.int .i64 e1, .int .i64 e2, .int .i64 e3, .int .i64 e4], .int .i64 sn, .nilIface]) ∧ KTouch H1 w5 w' ∧ ∃ F' H', AA C w6 w' (stepA x xv is) ab bb F' H') := by
        have := aa_step HG6.out hAA hxo (by omega) xv is hgot
        rw [he, hsn] at this
        exact this
      clear he hsn hgot
      go_upto_region 17 with (go_at_call 18; refine HS.out.mono ?_; rintro e w2 ⟨rfl, tk2, hn2⟩)
      have hb2 : Below w.heap.size w w2 := hbw.trans (tk2.below (fun m hm => by have := (C.ge hAA.A m hm).1; omega) hbw.size)
      have hs2 := tk2.size
      have hx3 : Below w2.heap.size w2 (w2.alloc (.cells #[.int .i64 e1, .int .i64 e2, .int .i64 e3, .int .i64 e4] 60)) := (Below.refl _ _).alloc (Nat.le_refl _) _
      have hE : (w2.alloc (.cells #[.int .i64 e1, .int .i64 e2, .int .i64 e3, .int .i64 e4] 60)).heap[w2.heap.size]? = some (.cells #[.int .i64 e1, .int .i64 e2, .int .i64 e3, .int .i64 e4] 60) := World.alloc_heap_new _ _
      have hs3 : (w2.alloc (.cells #[.int .i64 e1, .int .i64 e2, .int .i64 e3, .int .i64 e4] 60)).heap.size = w2.heap.size + 1 := by simp
      generalize w2.alloc (.cells #[.int .i64 e1, .int .i64 e2, .int .i64 e3, .int .i64 e4] 60) = w3 at hx3 hE hs3 ⊢
      have HN2 := hn2 w3 hx3
      clear hn2 HS
      go_upto_region 18 with (go_at_call 18; refine HN2.mono ?_; rintro e w4 ⟨rfl, b4, hn4⟩; clear HN2)
      have hx5 : Below w4.heap.size w4 (w4.alloc (.cells #[.int .i64 0, .int .i64 0, .int .i64 0, .int .i64 0] 60)) := (Below.refl _ _).alloc (Nat.le_refl _) _
      generalize w4.alloc (.cells #[.int .i64 0, .int .i64 0, .int .i64 0, .int .i64 0] 60) = w5 at hx5 ⊢
      have HN5 := hn4 w5 hx5
      clear hn4
      have b35 : Below w3.heap.size w3 w5 := b4.trans (hx5.mono b4.size)
      have hc5 := ((hb2.trans (hx3.mono hb2.size)).trans (b35.mono (by have := hb2.size; omega))).cell (p := ⟨lb, lo + i, none⟩) hlb
      rw [hcl] at hc5
      go_upto_region 19 with (go_at_call 18; refine HN5.mono ?_; rintro e w7 ⟨rfl, tk7, F2, H2, hAA7⟩; clear HN5)
      have hs7 := tk7.size
      have hs5 := b35.size
      have hE7 : w7.heap[w2.heap.size]? = some (.cells #[.int .i64 e1, .int .i64 e2, .int .i64 e3, .int .i64 e4] 60) := (tk7.block w2.heap.size (by omega) (fun hm => by have := (C.ge hAA.B w2.heap.size hm).2; omega)).trans ((b35.block w2.heap.size (by omega)).trans hE)
      have hx9 : Below w7.heap.size w7 (w7.alloc (.cells #[.int .i64 e1, .int .i64 e2, .int .i64 e3, .int .i64 e4] 60)) := (Below.refl _ _).alloc (Nat.le_refl _) _
      have hE9 : (w7.alloc (.cells #[.int .i64 e1, .int .i64 e2, .int .i64 e3, .int .i64 e4] 60)).heap[w2.heap.size]? = some (.cells #[.int .i64 e1, .int .i64 e2, .int .i64 e3, .int .i64 e4] 60) := (hx9.block w2.heap.size (by omega)).trans hE7
      have hF9 : (w7.alloc (.cells #[.int .i64 e1, .int .i64 e2, .int .i64 e3, .int .i64 e4] 60)).heap[w7.heap.size]? = some (.cells #[.int .i64 e1, .int .i64 e2, .int .i64 e3, .int .i64 e4] 60) := World.alloc_heap_new _ _
      have hs9 : (w7.alloc (.cells #[.int .i64 e1, .int .i64 e2, .int .i64 e3, .int .i64 e4] 60)).heap.size = w7.heap.size + 1 := by simp
      have hAA9 := hAA7.all hx9
      generalize w7.alloc (.cells #[.int .i64 e1, .int .i64 e2, .int .i64 e3, .int .i64 e4] 60) = w9 at hE9 hF9 hs9 hAA9 ⊢
      clear hE hE7 hx3 hx5 hx9 tk2 tk7 b4 b35 hAA hAA7 hc5 hcl hcr hb2
      have hcs : ∀ W, Below w9.heap.size w9 W → W.cell? ⟨w2.heap.size, 0, none⟩ = some (.int .i64 e1) ∧ W.cell? ⟨w2.heap.size, 1, none⟩ = some (.int .i64 e2) ∧ W.cell? ⟨w2.heap.size, 2, none⟩ = some (.int .i64 e3) ∧ W.cell? ⟨w2.heap.size, 3, none⟩ = some (.int .i64 e4) ∧ W.cell? ⟨w7.heap.size, 0, none⟩ = some (.int .i64 e1) ∧ W.cell? ⟨w7.heap.size, 1, none⟩ = some (.int .i64 e2) ∧ W.cell? ⟨w7.heap.size, 2, none⟩ = some (.int .i64 e3) ∧ W.cell? ⟨w7.heap.size, 3, none⟩ = some (.int .i64 e4) := fun W hb => by
        have g1 := (hb.block w2.heap.size (by omega)).trans hE9
        have g2 := (hb.block w7.heap.size (by omega)).trans hF9
        simp [World.cell?, g1, g2]
      have hb9 := (HB6.out).trans ((C.since hAA9.A).mono HB6.out.size)
      have HEr : Hid (∀ W, Below w9.heap.size w9 W → Calls Tryd.prog 21 #[.iface 71 (.int .i64 1), .int .i64 1] W fun r w' => r = .returned (.bool true) ∧ Below W.heap.size W w') := fun W hb => HE.out W (hb9.trans (hb.mono hb9.size))
      obtain ⟨y, hy⟩ : ∃ y, (stepA x xv is) = y := ⟨_, rfl⟩
      have HYo : Hid (AOk y ∧ y.t ≤ (i : Int) + 1) := ⟨by rw [← hy]; exact stepA_ok hxo HGot.out, by rw [← hy]; show x.t + 1 ≤ _; omega⟩
      rw [hy] at hAA9
      clear hy hxo hxt
      have HSA : Hid (∀ W, Below w9.heap.size w9 W → Calls Tryd.prog 19 #[.pointer (some ⟨ab, 0, none⟩)] W fun e w' => e = .returned (.agg #[.int .i64 y.s.p, .int .i64 (y.s.c 0), .int .i64 (y.s.c 1), .int .i64 (y.s.c 2), .int .i64 (y.s.c 3), .int .i64 (y.s.c 4), .int .i64 (y.s.c 5), .bool y.s.f]) ∧ Below W.heap.size W w') := fun W hb => C.state (hAA9.all hb).A
      have HSB : Hid (∀ W, Below w9.heap.size w9 W → Calls Tryd.prog 19 #[.pointer (some ⟨bb, 0, none⟩)] W fun e w' => e = .returned (.agg #[.int .i64 y.s.p, .int .i64 (y.s.c 0), .int .i64 (y.s.c 1), .int .i64 (y.s.c 2), .int .i64 (y.s.c 3), .int .i64 (y.s.c 4), .int .i64 (y.s.c 5), .bool y.s.f]) ∧ Below W.heap.size W w') := fun W hb => C.state (hAA9.all hb).B
      have HTA : Hid (∀ W, Below w9.heap.size w9 W → Calls Tryd.prog 20 #[.pointer (some ⟨ab, 0, none⟩)] W fun e w' => e = .returned (.int .i64 y.t) ∧ Below W.heap.size W w') := fun W hb => (C.turns (hAA9.all hb).A).mono (by
        rintro e w' ⟨rfl, k, rfl⟩
        exact ⟨rfl, below_dN (Below.refl _ _) _⟩)
      have HTB : Hid (∀ W, Below w9.heap.size w9 W → Calls Tryd.prog 20 #[.pointer (some ⟨bb, 0, none⟩)] W fun e w' => e = .returned (.int .i64 y.t) ∧ Below W.heap.size W w') := fun W hb => (C.turns (hAA9.all hb).B).mono (by
        rintro e w' ⟨rfl, k, rfl⟩
        exact ⟨rfl, below_dN (Below.refl _ _) _⟩)
      have HAA9 : Hid (AA C w6 w9 y ab bb F2 H2) := hAA9
      clear hAA9 hE9 hF9
      have hnq := neq_st y.s.p (y.s.c 0) (y.s.c 1) (y.s.c 2) (y.s.c 3) (y.s.c 4) (y.s.c 5) y.s.f
      have hgd := guardSt
      have hev := neq_ev e1 e2 e3 e4
      have hge := guardEv
      go_cut [171] from 95 to 170 (fun s171 wx => s171 = .bool false ∧ Below w9.heap.size w9 wx)
      case first =>
        have bcur : Below w9.heap.size w9 w9.drew := (Below.refl _ _).drew
        go_region_held3 (fun W => W.cell? ⟨w2.heap.size, 0, none⟩ = some (.int .i64 e1) ∧ W.cell? ⟨w2.heap.size, 1, none⟩ = some (.int .i64 e2) ∧ W.cell? ⟨w2.heap.size, 2, none⟩ = some (.int .i64 e3) ∧ W.cell? ⟨w2.heap.size, 3, none⟩ = some (.int .i64 e4) ∧ W.cell? ⟨w7.heap.size, 0, none⟩ = some (.int .i64 e1) ∧ W.cell? ⟨w7.heap.size, 1, none⟩ = some (.int .i64 e2) ∧ W.cell? ⟨w7.heap.size, 2, none⟩ = some (.int .i64 e3) ∧ W.cell? ⟨w7.heap.size, 3, none⟩ = some (.int .i64 e4))
          (first | exact hcs _ (Below.refl _ _) | exact hcs _ bcur | go_keep)
          (first
            | (go_at_call 21; refine (HEr.out _ bcur).mono ?_; rintro e wN ⟨rfl, bN⟩; replace bcur := bcur.trans (bN.mono bcur.size); clear bN)
            | (go_at_call 19; refine (HSA.out _ bcur).mono ?_; rintro e wN ⟨rfl, bN⟩; replace bcur := bcur.trans (bN.mono bcur.size); clear bN)
            | (go_at_call 19; refine (HSB.out _ bcur).mono ?_; rintro e wN ⟨rfl, bN⟩; replace bcur := bcur.trans (bN.mono bcur.size); clear bN)
            | (go_at_call 20; refine (HTA.out _ bcur).mono ?_; rintro e wN ⟨rfl, bN⟩; replace bcur := bcur.trans (bN.mono bcur.size); clear bN)
            | (go_at_call 20; refine (HTB.out _ bcur).mono ?_; rintro e wN ⟨rfl, bN⟩; replace bcur := bcur.trans (bN.mono bcur.size); clear bN))
        all_goals (go_wp2_with fail; go_meet; exact ⟨rfl, bcur⟩)
      case rest =>
        obtain ⟨rfl, hbc⟩ := hcut
        go_wp2
        go_roundw
        case rel => exact ⟨i + 1, y, F2, H2, by omega, by omega, by go_num, by have := HYo.out.2; push_cast; exact this, HYo.out.1, HAA9.out.all hbc⟩
        case measure => simp [intOf]; omega
    case pos =>
      have HS : Hid (Calls Tryd.prog 18 #[.pointer (some ⟨ab, 0, none⟩), .int .i64 xv, .bool is] wr fun e w2 => e = .returned (.tuple #[.agg #[.int .i64 0, .int .i64 0, .int .i64 0, .int .i64 0], .int .i64 0, (.iface 71 (.int .i64 1))]) ∧ KTouch F1 wr w2 ∧ ∀ w3, Below w2.heap.size w2 w3 → Calls Tryd.prog 18 #[.pointer (some ⟨bb, 0, none⟩), .int .i64 1000, .bool true] w3 fun e w4 => e = .returned (.tuple #[.agg #[.int .i64 0, .int .i64 0, .int .i64 0, .int .i64 0], .int .i64 0, .iface 71 (.int .i64 1)]) ∧ Below w3.heap.size w3 w4 ∧ ∀ w5, Below w4.heap.size w4 w5 → Calls Tryd.prog 18 #[.pointer (some ⟨bb, 0, none⟩), .int .i64 xv, .bool is] w5 fun e w' => e = .returned (.tuple #[.agg #[.int .i64 0, .int .i64 0, .int .i64 0, .int .i64 0], .int .i64 0, (.iface 71 (.int .i64 1))]) ∧ KTouch H1 w5 w' ∧ ∃ F' H', AA C w6 w' x ab bb F' H') := aa_refuse HG6.out hAA hxo xv is hgot
      clear hgot
      go_upto_region 17 with (go_at_call 18; refine HS.out.mono ?_; rintro e w2 ⟨rfl, tk2, hn2⟩)
      have hb2 : Below w.heap.size w w2 := hbw.trans (tk2.below (fun m hm => by have := (C.ge hAA.A m hm).1; omega) hbw.size)
      have hs2 := tk2.size
      have hx3 : Below w2.heap.size w2 (w2.alloc (.cells #[.int .i64 0, .int .i64 0, .int .i64 0, .int .i64 0] 60)) := (Below.refl _ _).alloc (Nat.le_refl _) _
      have hE : (w2.alloc (.cells #[.int .i64 0, .int .i64 0, .int .i64 0, .int .i64 0] 60)).heap[w2.heap.size]? = some (.cells #[.int .i64 0, .int .i64 0, .int .i64 0, .int .i64 0] 60) := World.alloc_heap_new _ _
      have hs3 : (w2.alloc (.cells #[.int .i64 0, .int .i64 0, .int .i64 0, .int .i64 0] 60)).heap.size = w2.heap.size + 1 := by simp
      generalize w2.alloc (.cells #[.int .i64 0, .int .i64 0, .int .i64 0, .int .i64 0] 60) = w3 at hx3 hE hs3 ⊢
      have HN2 := hn2 w3 hx3
      clear hn2 HS
      go_upto_region 18 with (go_at_call 18; refine HN2.mono ?_; rintro e w4 ⟨rfl, b4, hn4⟩; clear HN2)
      have hx5 : Below w4.heap.size w4 (w4.alloc (.cells #[.int .i64 0, .int .i64 0, .int .i64 0, .int .i64 0] 60)) := (Below.refl _ _).alloc (Nat.le_refl _) _
      generalize w4.alloc (.cells #[.int .i64 0, .int .i64 0, .int .i64 0, .int .i64 0] 60) = w5 at hx5 ⊢
      have HN5 := hn4 w5 hx5
      clear hn4
      have b35 : Below w3.heap.size w3 w5 := b4.trans (hx5.mono b4.size)
      have hc5 := ((hb2.trans (hx3.mono hb2.size)).trans (b35.mono (by have := hb2.size; omega))).cell (p := ⟨lb, lo + i, none⟩) hlb
      rw [hcl] at hc5
      go_upto_region 19 with (go_at_call 18; refine HN5.mono ?_; rintro e w7 ⟨rfl, tk7, F2, H2, hAA7⟩; clear HN5)
      have hs7 := tk7.size
      have hs5 := b35.size
      have hE7 : w7.heap[w2.heap.size]? = some (.cells #[.int .i64 0, .int .i64 0, .int .i64 0, .int .i64 0] 60) := (tk7.block w2.heap.size (by omega) (fun hm => by have := (C.ge hAA.B w2.heap.size hm).2; omega)).trans ((b35.block w2.heap.size (by omega)).trans hE)
      have hx9 : Below w7.heap.size w7 (w7.alloc (.cells #[.int .i64 0, .int .i64 0, .int .i64 0, .int .i64 0] 60)) := (Below.refl _ _).alloc (Nat.le_refl _) _
      have hE9 : (w7.alloc (.cells #[.int .i64 0, .int .i64 0, .int .i64 0, .int .i64 0] 60)).heap[w2.heap.size]? = some (.cells #[.int .i64 0, .int .i64 0, .int .i64 0, .int .i64 0] 60) := (hx9.block w2.heap.size (by omega)).trans hE7
      have hF9 : (w7.alloc (.cells #[.int .i64 0, .int .i64 0, .int .i64 0, .int .i64 0] 60)).heap[w7.heap.size]? = some (.cells #[.int .i64 0, .int .i64 0, .int .i64 0, .int .i64 0] 60) := World.alloc_heap_new _ _
      have hs9 : (w7.alloc (.cells #[.int .i64 0, .int .i64 0, .int .i64 0, .int .i64 0] 60)).heap.size = w7.heap.size + 1 := by simp
      have hAA9 := hAA7.all hx9
      generalize w7.alloc (.cells #[.int .i64 0, .int .i64 0, .int .i64 0, .int .i64 0] 60) = w9 at hE9 hF9 hs9 hAA9 ⊢
      clear hE hE7 hx3 hx5 hx9 tk2 tk7 b4 b35 hAA hAA7 hc5 hcl hcr hb2
      have hcs : ∀ W, Below w9.heap.size w9 W → W.cell? ⟨w2.heap.size, 0, none⟩ = some (.int .i64 0) ∧ W.cell? ⟨w2.heap.size, 1, none⟩ = some (.int .i64 0) ∧ W.cell? ⟨w2.heap.size, 2, none⟩ = some (.int .i64 0) ∧ W.cell? ⟨w2.heap.size, 3, none⟩ = some (.int .i64 0) ∧ W.cell? ⟨w7.heap.size, 0, none⟩ = some (.int .i64 0) ∧ W.cell? ⟨w7.heap.size, 1, none⟩ = some (.int .i64 0) ∧ W.cell? ⟨w7.heap.size, 2, none⟩ = some (.int .i64 0) ∧ W.cell? ⟨w7.heap.size, 3, none⟩ = some (.int .i64 0) := fun W hb => by
        have g1 := (hb.block w2.heap.size (by omega)).trans hE9
        have g2 := (hb.block w7.heap.size (by omega)).trans hF9
        simp [World.cell?, g1, g2]
      have hb9 := (HB6.out).trans ((C.since hAA9.A).mono HB6.out.size)
      have HEr : Hid (∀ W, Below w9.heap.size w9 W → Calls Tryd.prog 21 #[.iface 71 (.int .i64 1), .int .i64 1] W fun r w' => r = .returned (.bool true) ∧ Below W.heap.size W w') := fun W hb => HE.out W (hb9.trans (hb.mono hb9.size))
      obtain ⟨y, hy⟩ : ∃ y, x = y := ⟨_, rfl⟩
      have HYo : Hid (AOk y ∧ y.t ≤ (i : Int) + 1) := ⟨by rw [← hy]; exact hxo, by rw [← hy]; omega⟩
      rw [hy] at hAA9
      clear hy hxo hxt
      have HSA : Hid (∀ W, Below w9.heap.size w9 W → Calls Tryd.prog 19 #[.pointer (some ⟨ab, 0, none⟩)] W fun e w' => e = .returned (.agg #[.int .i64 y.s.p, .int .i64 (y.s.c 0), .int .i64 (y.s.c 1), .int .i64 (y.s.c 2), .int .i64 (y.s.c 3), .int .i64 (y.s.c 4), .int .i64 (y.s.c 5), .bool y.s.f]) ∧ Below W.heap.size W w') := fun W hb => C.state (hAA9.all hb).A
      have HSB : Hid (∀ W, Below w9.heap.size w9 W → Calls Tryd.prog 19 #[.pointer (some ⟨bb, 0, none⟩)] W fun e w' => e = .returned (.agg #[.int .i64 y.s.p, .int .i64 (y.s.c 0), .int .i64 (y.s.c 1), .int .i64 (y.s.c 2), .int .i64 (y.s.c 3), .int .i64 (y.s.c 4), .int .i64 (y.s.c 5), .bool y.s.f]) ∧ Below W.heap.size W w') := fun W hb => C.state (hAA9.all hb).B
      have HTA : Hid (∀ W, Below w9.heap.size w9 W → Calls Tryd.prog 20 #[.pointer (some ⟨ab, 0, none⟩)] W fun e w' => e = .returned (.int .i64 y.t) ∧ Below W.heap.size W w') := fun W hb => (C.turns (hAA9.all hb).A).mono (by
        rintro e w' ⟨rfl, k, rfl⟩
        exact ⟨rfl, below_dN (Below.refl _ _) _⟩)
      have HTB : Hid (∀ W, Below w9.heap.size w9 W → Calls Tryd.prog 20 #[.pointer (some ⟨bb, 0, none⟩)] W fun e w' => e = .returned (.int .i64 y.t) ∧ Below W.heap.size W w') := fun W hb => (C.turns (hAA9.all hb).B).mono (by
        rintro e w' ⟨rfl, k, rfl⟩
        exact ⟨rfl, below_dN (Below.refl _ _) _⟩)
      have HAA9 : Hid (AA C w6 w9 y ab bb F2 H2) := hAA9
      clear hAA9 hE9 hF9
      have hnq := neq_st y.s.p (y.s.c 0) (y.s.c 1) (y.s.c 2) (y.s.c 3) (y.s.c 4) (y.s.c 5) y.s.f
      have hgd := guardSt
      have hev := neq_ev 0 0 0 0
      have hge := guardEv
      go_cut [171] from 95 to 170 (fun s171 wx => s171 = .bool false ∧ Below w9.heap.size w9 wx)
      case first =>
        have bcur : Below w9.heap.size w9 w9.drew := (Below.refl _ _).drew
        go_region_held3 (fun W => W.cell? ⟨w2.heap.size, 0, none⟩ = some (.int .i64 0) ∧ W.cell? ⟨w2.heap.size, 1, none⟩ = some (.int .i64 0) ∧ W.cell? ⟨w2.heap.size, 2, none⟩ = some (.int .i64 0) ∧ W.cell? ⟨w2.heap.size, 3, none⟩ = some (.int .i64 0) ∧ W.cell? ⟨w7.heap.size, 0, none⟩ = some (.int .i64 0) ∧ W.cell? ⟨w7.heap.size, 1, none⟩ = some (.int .i64 0) ∧ W.cell? ⟨w7.heap.size, 2, none⟩ = some (.int .i64 0) ∧ W.cell? ⟨w7.heap.size, 3, none⟩ = some (.int .i64 0))
          (first | exact hcs _ (Below.refl _ _) | exact hcs _ bcur | go_keep)
          (first
            | (go_at_call 21; refine (HEr.out _ bcur).mono ?_; rintro e wN ⟨rfl, bN⟩; replace bcur := bcur.trans (bN.mono bcur.size); clear bN)
            | (go_at_call 19; refine (HSA.out _ bcur).mono ?_; rintro e wN ⟨rfl, bN⟩; replace bcur := bcur.trans (bN.mono bcur.size); clear bN)
            | (go_at_call 19; refine (HSB.out _ bcur).mono ?_; rintro e wN ⟨rfl, bN⟩; replace bcur := bcur.trans (bN.mono bcur.size); clear bN)
            | (go_at_call 20; refine (HTA.out _ bcur).mono ?_; rintro e wN ⟨rfl, bN⟩; replace bcur := bcur.trans (bN.mono bcur.size); clear bN)
            | (go_at_call 20; refine (HTB.out _ bcur).mono ?_; rintro e wN ⟨rfl, bN⟩; replace bcur := bcur.trans (bN.mono bcur.size); clear bN))
        all_goals (go_wp2_with fail; go_meet; exact ⟨rfl, bcur⟩)
      case rest =>
        obtain ⟨rfl, hbc⟩ := hcut
        go_wp2
        go_roundw
        case rel => exact ⟨i + 1, y, F2, H2, by omega, by omega, by go_num, by have := HYo.out.2; push_cast; exact this, HYo.out.1, HAA9.out.all hbc⟩
        case measure => simp [intOf]; omega
end Go.Proofs.YtanndhamnfnjfaeDoor
