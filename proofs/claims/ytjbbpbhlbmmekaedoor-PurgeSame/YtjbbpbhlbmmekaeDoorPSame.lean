/-
  The law PurgeSame: the walk, under what package purge does.
-/
import Derived.Test.YtjbbpbhlbmmekaeDoorJa3
import Derived.Deep.CutRange
import Derived.Deep.RegionWith
import Derived.BigQuiet
import Derived.RangeFuncNested
namespace Go.Proofs.YtjbbpbhlbmmekaeDoor
open Go.RowKit

/-- The law's own plan: two rooms that set a cell, and no wire. -/
def toyQ : PD := ⟨[[(1, 0, 1)], [(1, 0, 2)]], 2, [(0, 1, 0), (1, 2, 1)], []⟩
theorem toyQ_e : prgE toyQ 0 = 0 := by decide +kernel
theorem toyQ_code : (prgP toyQ 0).code = [[(1, 0, 1)], [(10, 0, 0)]] := by decide +kernel
theorem toyQ_ticks : (prgP toyQ 0).ticks = 2 := by decide +kernel
theorem toyQ_pln (W : World) (n : Nat) (hn : n = W.heap.size) : Pln ((((W.alloc (.cells #[.int .i64 1, .int .i64 0, .int .i64 1] 38)).alloc (.cells #[.int .i64 1, .int .i64 0, .int .i64 2] 38)).alloc (.cells #[.slice (some ⟨n, 0, none⟩) 1 1, .slice (some ⟨n + 1, 0, none⟩) 1 1] 39)).alloc (.cells #[.int .i64 0, .int .i64 1, .int .i64 0, .int .i64 1, .int .i64 2, .int .i64 1] 41)) (.slice (some ⟨n + 2, 0, none⟩) 2 2) (.slice (some ⟨n + 3, 0, none⟩) 2 2) (.slice none 0 0) toyQ := by
  subst hn
  refine ⟨Or.inr ⟨_, 0, 2, rfl, Nat.le_refl _, by simp, fun i c hi => ?_⟩, Or.inr ⟨_, 0, 2, rfl, Nat.le_refl _, by simp, fun i s hi => ?_⟩, Or.inl ⟨rfl, _, _, rfl⟩⟩
  · match i, hi with
    | 0, hi =>
      simp [toyQ] at hi
      subst hi
      refine ⟨.slice (some ⟨W.heap.size, 0, none⟩) 1 1, by simp [go_sem], Or.inr ⟨W.heap.size, 0, 1, rfl, by simp; omega, fun j o ho => ?_⟩⟩
      match j, ho with
      | 0, ho => simp at ho; subst ho; simp [go_sem]
      | j + 1, ho => simp at ho
    | 1, hi =>
      simp [toyQ] at hi
      subst hi
      refine ⟨.slice (some ⟨W.heap.size + 1, 0, none⟩) 1 1, by simp [go_sem], Or.inr ⟨W.heap.size + 1, 0, 1, rfl, by simp, fun j o ho => ?_⟩⟩
      match j, ho with
      | 0, ho => simp at ho; subst ho; simp [go_sem]
      | j + 1, ho => simp at ho
    | i + 2, hi => simp [toyQ] at hi
  · match i, hi with
    | 0, hi => simp [toyQ] at hi; subst hi; simp [go_sem]
    | 1, hi => simp [toyQ] at hi; subst hi; simp [go_sem]
    | i + 2, hi => simp [toyQ] at hi
set_option maxRecDepth 100000 in
set_option maxHeartbeats 8000000 in
theorem psame_of {G : World → Prop} (hall : ∀ w w', G w → Below w.heap.size w w' → G w') (P : PrgPurge G) (S : PrgSame G) (hC : ∀ (p : PD) (vc vs vw : Value) (W : World), G W → Pln W vc vs vw p → Calls Tryd.prog 10 #[plV vc p.ticks vs vw] W fun e w' => e = .returned (wErr (plchk p)) ∧ Below W.heap.size W w')
    (p : PD) (vc vs vw : Value) (n r : Int) (w : World) (hG : G w) (hP : Pln w vc vs vw p) :
    Calls Tryd.prog 4 #[plV vc p.ticks vs vw, .int .i64 n, .int .i64 r] w fun e w' => e = .returned (.bool true) ∧ Below w.heap.size w w' := by
  obtain ⟨ca, cc, rfl⟩ := hP.code.form
  obtain ⟨sa, sc, rfl⟩ := hP.spans.form
  obtain ⟨wa, wc', rfl⟩ := hP.wires.form
  have hx0 := Bx.first w (.slice ca p.code.length cc) p.ticks (.slice sa p.spans.length sc) (.slice wa p.wires.length wc')
  have HP : Hid (Pln w (.slice ca p.code.length cc) (.slice sa p.spans.length sc) (.slice wa p.wires.length wc') p) := hP
  have HG : Hid (∀ W, Below w.heap.size w W → G W) := fun W hb => hall w W hG hb
  have HT : Hid (∀ W n, Below w.heap.size w W → n = W.heap.size → Calls Tryd.prog 8 #[.agg #[.slice (some ⟨n + 2, 0, none⟩) 2 2, .int .i64 2, .slice (some ⟨n + 3, 0, none⟩) 2 2, .slice none 0 0], .int .i64 0] (((((W.alloc (.cells #[.int .i64 1, .int .i64 0, .int .i64 1] 38)).alloc (.cells #[.int .i64 1, .int .i64 0, .int .i64 2] 38)).alloc (.cells #[.slice (some ⟨n, 0, none⟩) 1 1, .slice (some ⟨n + 1, 0, none⟩) 1 1] 39)).alloc (.cells #[.int .i64 0, .int .i64 1, .int .i64 0, .int .i64 1, .int .i64 2, .int .i64 1] 41)).alloc (.cells #[.slice (some ⟨n + 2, 0, none⟩) 2 2, .int .i64 2, .slice (some ⟨n + 3, 0, none⟩) 2 2, .slice none 0 0] 26)) fun e w' => ∃ (cb co ck ob oo og pb po pg : Nat) (ia ja : Option Addr) (il ic jl jc : Nat), e = .returned (.tuple #[.agg #[.slice (some ⟨cb, co, none⟩) 2 ck, .int .i64 2, .slice ia il ic, .slice ja jl jc], .nilIface]) ∧ (w'.cell? ⟨cb, co, none⟩ = some (.slice (some ⟨ob, oo, none⟩) 1 og) ∧ w'.cell? ⟨cb, co + 1, none⟩ = some (.slice (some ⟨pb, po, none⟩) 1 pg) ∧ w'.cell? ⟨ob, oo, none⟩ = some (.int .i64 1) ∧ w'.cell? ⟨pb, po, none⟩ = some (.int .i64 10)) ∧ Below W.heap.size W w') := fun W n hb hn => by
    have hA : Below W.heap.size W ((((W.alloc (.cells #[.int .i64 1, .int .i64 0, .int .i64 1] 38)).alloc (.cells #[.int .i64 1, .int .i64 0, .int .i64 2] 38)).alloc (.cells #[.slice (some ⟨n, 0, none⟩) 1 1, .slice (some ⟨n + 1, 0, none⟩) 1 1] 39)).alloc (.cells #[.int .i64 0, .int .i64 1, .int .i64 0, .int .i64 1, .int .i64 2, .int .i64 1] 41)) := ((((Below.refl _ _).alloc (Nat.le_refl _) _).alloc (by simp) _).alloc (by simp; omega) _).alloc (by simp; omega) _
    have hPl := toyQ_pln W n hn
    generalize ((((W.alloc (.cells #[.int .i64 1, .int .i64 0, .int .i64 1] 38)).alloc (.cells #[.int .i64 1, .int .i64 0, .int .i64 2] 38)).alloc (.cells #[.slice (some ⟨n, 0, none⟩) 1 1, .slice (some ⟨n + 1, 0, none⟩) 1 1] 39)).alloc (.cells #[.int .i64 0, .int .i64 1, .int .i64 0, .int .i64 1, .int .i64 2, .int .i64 1] 41)) = W1 at hA hPl ⊢
    have hB : Below W1.heap.size W1 (W1.alloc (.cells #[.slice (some ⟨n + 2, 0, none⟩) 2 2, .int .i64 2, .slice (some ⟨n + 3, 0, none⟩) 2 2, .slice none 0 0] 26)) := (Below.refl _ _).alloc (Nat.le_refl _) _
    have hAB := hA.trans (hB.mono hA.size)
    have h := P toyQ _ _ _ 0 _ (HG.out _ (hb.trans (hAB.mono hb.size))) (hPl.all hB)
    rw [toyQ_e, toyQ_ticks] at h
    refine h.mono ?_
    rintro e w' ⟨ic, is, iw, rfl, h1, h2⟩
    obtain ⟨ia, il, rfl⟩ := h1.spans.form
    obtain ⟨ja, jl, rfl⟩ := h1.wires.form
    have hc := h1.code
    rw [toyQ_code] at hc
    rcases hc with ⟨h3, _⟩ | ⟨cb, co, ck, rfl, _, _, hc⟩
    · cases h3
    · obtain ⟨u, hu, hou⟩ := hc 0 _ rfl
      obtain ⟨v, hv, hov⟩ := hc 1 _ rfl
      rcases hou with ⟨h3, _⟩ | ⟨ob, oo, og, rfl, _, ho⟩
      · cases h3
      rcases hov with ⟨h3, _⟩ | ⟨pb, po, pg, rfl, _, ho'⟩
      · cases h3
      refine ⟨cb, co, ck, ob, oo, og, pb, po, pg, _, _, _, _, _, _, rfl, ⟨by simpa using hu, hv, ?_, ?_⟩, hAB.trans (h2.mono hAB.size)⟩
      · simpa using (ho 0 _ rfl).1
      · simpa using (ho' 0 _ rfl).1
  have HPr : Hid (∀ W, Below w.heap.size w W → Calls Tryd.prog 8 #[.agg #[.slice ca p.code.length cc, .int .i64 p.ticks, .slice sa p.spans.length sc, .slice wa p.wires.length wc'], .int .i64 r] W fun e w' => ∃ (a1 a2 a3 : Option Addr) (l1 c1 l2 c2 l3 c3 : Nat), e = .returned (.tuple #[.agg #[.slice a1 l1 c1, .int .i64 (prgP p r).ticks, .slice a2 l2 c2, .slice a3 l3 c3], wErr (prgE p r)]) ∧ Pln w' (.slice a1 l1 c1) (.slice a2 l2 c2) (.slice a3 l3 c3) (prgP p r) ∧ Below W.heap.size W w') := fun W hb => by
    refine (P p _ _ _ r W (HG.out W hb) (HP.out.all hb)).mono ?_
    rintro e w' ⟨ic, is, iw, rfl, h1, h2⟩
    obtain ⟨a1, c1, rfl⟩ := h1.code.form
    obtain ⟨a2, c2, rfl⟩ := h1.spans.form
    obtain ⟨a3, c3, rfl⟩ := h1.wires.form
    exact ⟨_, _, _, _, _, _, _, _, _, rfl, h1, h2⟩
  unfold plV
  clear hP hG
  have k0 := hx0.c0
  go_enter Tryd.func4, Tryd.ntmps4
  go_upto_region 3 with (go_at_call 8; refine (HT.out (w.alloc (.cells #[.slice ca p.code.length cc, .int .i64 p.ticks, .slice sa p.spans.length sc, .slice wa p.wires.length wc'] 26)) (w.heap.size + 1) hx0.below (by simp)).mono ?_; rintro e w2 ⟨cb, co, ck, ob, oo, og, pb, po, pg, ia, ja, il, ic, jl, jc, rfl, ⟨t0, t1, t2, t3⟩, b2⟩)
  have hx2 : Bx w w2 (.slice ca p.code.length cc) p.ticks (.slice sa p.spans.length sc) (.slice wa p.wires.length wc') := hx0.step b2
  have hA2 : Below w2.heap.size w2 (w2.alloc (.cells #[.slice (some ⟨cb, co, none⟩) 2 ck, .int .i64 2, .slice ia il ic, .slice ja jl jc] 26)) := (Below.refl _ _).alloc (Nat.le_refl _) _
  have z0 : (w2.alloc (.cells #[.slice (some ⟨cb, co, none⟩) 2 ck, .int .i64 2, .slice ia il ic, .slice ja jl jc] 26)).cell? ⟨w2.heap.size, 0, none⟩ = some (.slice (some ⟨cb, co, none⟩) 2 ck) := by simp
  replace t0 := (hA2.cell (p := ⟨cb, co, none⟩) (World.block_lt_of_cell? _ _ t0)).trans t0
  replace t1 := (hA2.cell (p := ⟨cb, co + 1, none⟩) (World.block_lt_of_cell? _ _ t1)).trans t1
  replace t2 := (hA2.cell (p := ⟨ob, oo, none⟩) (World.block_lt_of_cell? _ _ t2)).trans t2
  replace t3 := (hA2.cell (p := ⟨pb, po, none⟩) (World.block_lt_of_cell? _ _ t3)).trans t3
  have hx3 := hx2.step hA2
  clear b2 hx2 hA2 k0 hx0 HT
  generalize w2.alloc (.cells #[.slice (some ⟨cb, co, none⟩) 2 ck, .int .i64 2, .slice ia il ic, .slice ja jl jc] 26) = W3 at *
  generalize w2.heap.size = b8 at *
  have k0 := hx3.c0
  have k1 := hx3.c1
  have k2 := hx3.c2
  have k3 := hx3.c3
  go_upto_region 5 with fail
  clear t0 t1 t2 t3 z0
  have hprg : ∀ W, Below W3.heap.size W3 W → Below w.heap.size w W := fun W hb => (hx3.step hb).below
  by_cases hz : prgE p r = 0
  case neg =>
    rw [wErr_not hz] at HPr
    generalize prgE p r = z at HPr hz
    go_wp2_with (go_at_call 8; refine (HPr.out W3 hx3.below).mono ?_; rintro e w4 ⟨a1, a2, a3, l1, c1, l2, c2, l3, c3, rfl, hpl, b4⟩)
    go_ret
    exact ⟨rfl, (hx3.step (b4.alloc b4.size _)).below⟩
  rw [hz] at HPr
  have HPr0 : Hid (∀ W, Below w.heap.size w W → Calls Tryd.prog 8 #[.agg #[.slice ca p.code.length cc, .int .i64 p.ticks, .slice sa p.spans.length sc, .slice wa p.wires.length wc'], .int .i64 r] W fun e w' => ∃ (a1 a2 a3 : Option Addr) (l1 c1 l2 c2 l3 c3 : Nat), e = .returned (.tuple #[.agg #[.slice a1 l1 c1, .int .i64 (prgP p r).ticks, .slice a2 l2 c2, .slice a3 l3 c3], .nilIface]) ∧ Pln w' (.slice a1 l1 c1) (.slice a2 l2 c2) (.slice a3 l3 c3) (prgP p r) ∧ Below W.heap.size W w') := HPr.out
  clear HPr
  go_upto_region 6 with (go_at_call 8; refine (HPr0.out W3 hx3.below).mono ?_; rintro e w4 ⟨a1, a2, a3, l1, c1, l2, c2, l3, c3, rfl, hpl, b4⟩)
  have hA4 : Below w4.heap.size w4 (w4.alloc (.cells #[.slice a1 l1 c1, .int .i64 (prgP p r).ticks, .slice a2 l2 c2, .slice a3 l3 c3] 26)) := (Below.refl _ _).alloc (Nat.le_refl _) _
  have hx5 := (hx3.step b4).step hA4
  have HPl5 : Hid (Pln (w4.alloc (.cells #[.slice a1 l1 c1, .int .i64 (prgP p r).ticks, .slice a2 l2 c2, .slice a3 l3 c3] 26)) (.slice a1 l1 c1) (.slice a2 l2 c2) (.slice a3 l3 c3) (prgP p r)) := hpl.all hA4
  have hbx : (w4.alloc (.cells #[.slice a1 l1 c1, .int .i64 (prgP p r).ticks, .slice a2 l2 c2, .slice a3 l3 c3] 26)).heap[w4.heap.size]? = some (.cells #[.slice a1 l1 c1, .int .i64 (prgP p r).ticks, .slice a2 l2 c2, .slice a3 l3 c3] 26 (0, 0)) := World.alloc_heap_new _ _
  clear k0 k1 k2 k3 hpl b4 hA4 hx3 HPr0 hprg
  generalize w4.alloc (.cells #[.slice a1 l1 c1, .int .i64 (prgP p r).ticks, .slice a2 l2 c2, .slice a3 l3 c3] 26) = W5 at *
  generalize w4.heap.size = qb at *
  by_cases hn0 : n < 0
  case pos =>
    have hn0' : decide (n < 0) = true := decide_eq_true hn0
    go_wp2
    go_ret
    exact ⟨rfl, hx5.below⟩
  have hn0' : decide (n < 0) = false := decide_eq_false hn0
  by_cases hn4 : 400 < n
  case pos =>
    have hn4' : decide (400 < n) = true := decide_eq_true hn4
    go_wp2
    go_ret
    exact ⟨rfl, hx5.below⟩
  have hn4' : decide (400 < n) = false := decide_eq_false hn4
  obtain ⟨hle, hla, hlc⟩ := like_purged (p := p) (n := n) (r := r) hz (by omega) (by omega)
  have HS : Hid (Calls Tryd.prog 9 #[.agg #[.slice ca p.code.length cc, .int .i64 p.ticks, .slice sa p.spans.length sc, .slice wa p.wires.length wc'], .agg #[.slice a1 l1 c1, .int .i64 (prgP p r).ticks, .slice a2 l2 c2, .slice a3 l3 c3], .int .i64 n, .int .i64 r] W5 fun e w' => e = .returned (.tuple #[.int .i64 (-1), .nilIface]) ∧ Below W5.heap.size W5 w') := by
    have := S p (prgP p r) (.slice ca p.code.length cc) (.slice sa p.spans.length sc) (.slice wa p.wires.length wc') (.slice a1 l1 c1) (.slice a2 l2 c2) (.slice a3 l3 c3) n r W5 (HG.out _ hx5.below) (HP.out.all hx5.below) HPl5.out
    rw [hle, hla] at this
    exact this
  have HCk : Hid (∀ W, Below W5.heap.size W5 W → Calls Tryd.prog 10 #[.agg #[.slice a1 l1 c1, .int .i64 (prgP p r).ticks, .slice a2 l2 c2, .slice a3 l3 c3]] W fun e w' => e = .returned .nilIface ∧ Below W.heap.size W w') := fun W hb => by
    have := hC (prgP p r) (.slice a1 l1 c1) (.slice a2 l2 c2) (.slice a3 l3 c3) W (HG.out _ (hx5.step hb).below) (HPl5.out.all hb)
    rw [hlc] at this
    exact this
  clear hle hla hlc hz
  generalize (prgP p r).ticks = qt at *
  have k0 := hx5.c0
  have k1 := hx5.c1
  have k2 := hx5.c2
  have k3 := hx5.c3
  have hqc : ∀ W, Below W5.heap.size W5 W → W.cell? ⟨qb, 0, none⟩ = some (.slice a1 l1 c1) ∧ W.cell? ⟨qb, 1, none⟩ = some (.int .i64 qt) ∧ W.cell? ⟨qb, 2, none⟩ = some (.slice a2 l2 c2) ∧ W.cell? ⟨qb, 3, none⟩ = some (.slice a3 l3 c3) := fun W hb => by
    have e := (hb.block qb (Array.getElem?_eq_some_iff.1 hbx).1).trans hbx
    simp [World.cell?, e]
  obtain ⟨m0, m1, m2, m3⟩ := hqc W5 (Below.refl _ _)
  go_wp2_with (first
    | (go_at_call 9; refine HS.out.mono ?_; rintro e w6 ⟨rfl, b6⟩; clear m0 m1 m2 m3; obtain ⟨m0, m1, m2, m3⟩ := hqc w6 b6)
    | (go_at_call 10; refine (HCk.out w6 b6).mono ?_; rintro e w7 ⟨rfl, b7⟩))
  go_ret
  exact ⟨rfl, (hx5.step (b6.trans (b7.mono b6.size))).below⟩
end Go.Proofs.YtjbbpbhlbmmekaeDoor
