/-
  ANewW, AlnG: joined into one text.
-/
import Derived.Test.YtanndhamnfnjfafDoorJb3
import Derived.Test.YtanndhamnfnjfafDoorPlCheck
import Derived.Test.YtanndhamnfnjfafDoorJb4
import Derived.Test.YtanndhamnfnjfafDoorJb2
import Derived.Test.YtanndhamnfnjfafDoorJb1
import Derived.Deep.CutRange
import Derived.Deep.RegionWith
import Derived.RangeFuncRecord
import Derived.Test.YtanndhamnfnjfafDoorAStepW
namespace Go.Proofs.YtanndhamnfnjfafDoor
open Go.RowKit

set_option maxRecDepth 100000 in
set_option maxHeartbeats 4000000 in
theorem alnew_no (p : PD) (vc vs vw : Value) (r : Int) (w : World) (hfm : Forms w) (hP : Pln w vc vs vw p) (hp : plchk p ≠ 0) :
    Calls Tryd.prog 5 #[plV vc p.ticks vs vw, .int .i64 r] w fun e w' => ∃ x, e = .returned (.tuple #[.pointer x, wErr (plchk p)]) ∧ Below w.heap.size w w' := by
  obtain ⟨ca, cc, rfl⟩ := hP.code.form
  obtain ⟨sa, sc, rfl⟩ := hP.spans.form
  obtain ⟨wa, wc', rfl⟩ := hP.wires.form
  have hA : Below w.heap.size w (w.alloc (.cells #[.slice ca p.code.length cc, .int .i64 p.ticks, .slice sa p.spans.length sc, .slice wa p.wires.length wc'] 26)) := (Below.refl _ _).alloc (Nat.le_refl _) _
  have hc := plcheck_any p _ _ _ _ (hfm.all hA) (hP.all hA)
  unfold plV at hc ⊢
  rw [wErr_not hp] at hc ⊢
  generalize plchk p = ec at hc hp ⊢
  clear hP hfm
  go_enter Tryd.func5, Tryd.ntmps5
  go_wp2_with (go_at_call 15; refine hc.mono ?_; rintro e w1 ⟨rfl, b1⟩; clear hc)
  go_ret2
  exact ⟨none, rfl, hA.trans (b1.mono hA.size)⟩
set_option maxRecDepth 100000 in
set_option maxHeartbeats 4000000 in
theorem alnew_out (p : PD) (vc vs vw : Value) (r : Int) (w : World) (hfm : Forms w) (hP : Pln w vc vs vw p) (hp : plchk p = 0) (hr : r < 0 ∨ (p.code.length : Int) ≤ r) :
    Calls Tryd.prog 5 #[plV vc p.ticks vs vw, .int .i64 r] w fun e w' => ∃ x, e = .returned (.tuple #[.pointer x, wErr 1]) ∧ Below w.heap.size w w' := by
  obtain ⟨ca, cc, rfl⟩ := hP.code.form
  obtain ⟨sa, sc, rfl⟩ := hP.spans.form
  obtain ⟨wa, wc', rfl⟩ := hP.wires.form
  have hx0 := Bx.first w (.slice ca p.code.length cc) p.ticks (.slice sa p.spans.length sc) (.slice wa p.wires.length wc')
  have hc := plcheck_any p _ _ _ _ (hfm.all hx0.below) (hP.all hx0.below)
  rw [hp] at hc
  unfold plV at hc ⊢
  unfold wErr at hc ⊢
  have hcase : decide (r < 0) = true ∨ (decide (r < 0) = false ∧ decide ((p.code.length : Int) ≤ r) = true) := by
    by_cases h : r < 0
    · exact Or.inl (decide_eq_true h)
    · exact Or.inr ⟨decide_eq_false h, decide_eq_true (hr.resolve_left h)⟩
  clear hP hfm hr hp
  rcases hcase with h1 | ⟨h1, h2⟩
  · go_enter Tryd.func5, Tryd.ntmps5
    go_wp2_with (go_at_call 15; refine hc.mono ?_; rintro e w1 ⟨rfl, b1⟩; clear hc; have hx1 := hx0.step b1; have k0 := hx1.c0)
    go_ret2
    first | exact ⟨none, rfl, hx1.below⟩ | exact ⟨⟨none, rfl⟩, hx1.below⟩
  · go_enter Tryd.func5, Tryd.ntmps5
    go_wp2_with (go_at_call 15; refine hc.mono ?_; rintro e w1 ⟨rfl, b1⟩; clear hc; have hx1 := hx0.step b1; have k0 := hx1.c0)
    go_ret2
    first | exact ⟨none, rfl, hx1.below⟩ | exact ⟨⟨none, rfl⟩, hx1.below⟩
set_option maxRecDepth 100000 in
set_option maxHeartbeats 8000000 in
theorem alnew_ok (p : PD) (vc vs vw : Value) (r : Nat) (w : World) (hfm : Forms w) (hP : Pln w vc vs vw p) (hp : plchk p = 0) (hr : r < p.code.length) :
    Calls Tryd.prog 5 #[plV vc p.ticks vs vw, .int .i64 r] w fun e w' => ∃ ab cv F0, e = .returned (.tuple #[.pointer (some ⟨ab, 0, none⟩), .nilIface]) ∧ GA w' w.heap.size (newA p r) ab cv F0 ∧ Below w.heap.size w w' := by
  obtain ⟨ca, cc, rfl⟩ := hP.code.form
  obtain ⟨sa, sc, rfl⟩ := hP.spans.form
  obtain ⟨wa, wc', rfl⟩ := hP.wires.form
  obtain ⟨hc5, hc0, hfz, hwz, _, _, hcz, _⟩ := plchk_zero hp
  have hx0 := Bx.first w (.slice ca p.code.length cc) p.ticks (.slice sa p.spans.length sc) (.slice wa p.wires.length wc')
  have hc := plcheck_any p _ _ _ _ (hfm.all hx0.below) (hP.all hx0.below)
  rw [hp] at hc
  unfold plV at hc ⊢
  unfold wErr at hc
  simp only [if_true] at hc
  obtain ⟨cb, co, ua, un, ug, c, rfl, hclt, hcy, hcd, rfl, hops⟩ := hP.code.at hr
  have hcl : c.length ≤ 20 := (chk_zero (codesE_zero hcz c (List.mem_of_getElem? hcy))).2.1
  have HCl : Hid (∀ W, Below w.heap.size w W → Calls Tryd.prog 16 #[.slice ua c.length ug] W fun e w' => ∃ ao n cap, e = .returned (.slice ao n cap) ∧ w'.ownsRow W.heap.size 66 3 (.slice ao n cap) c.length (spCells c) ∧ Below W.heap.size W w') := fun W hb => by
    refine (clone_ops c _ W (hops.all hb) (by omega)).mono ?_
    rintro e w' ⟨v, rfl, h1, h2⟩
    obtain ⟨ao, n, cap, rfl⟩ := own_form h1
    exact ⟨ao, n, cap, rfl, h1, h2⟩
  have HN : Hid (∀ W, Calls Tryd.prog 17 #[] W fun e w' => e = .returned (.agg #[.int .i64 0, .int .i64 0, .int .i64 0, .int .i64 0, .int .i64 0, .int .i64 0, .int .i64 0, .bool false]) ∧ Below W.heap.size W w') := fun W => new_any W
  have h0 : decide ((r : Int) < 0) = false := decide_eq_false (by omega)
  have h1 : decide ((p.code.length : Int) ≤ (r : Int)) = false := decide_eq_false (by omega)
  have h1' : decide (p.code.length ≤ r) = false := decide_eq_false (by omega)
  have hri : (r : Int) < (p.code.length : Int) := by omega
  have HCY : Hid (p.code[r]? = some c) := hcy
  clear hP hfm hp hcy hops hfz hwz hcz
  go_enter Tryd.func5, Tryd.ntmps5
  go_upto_region 6 with (go_at_call 15; refine hc.mono ?_; rintro e w1 ⟨rfl, b1⟩; clear hc; have hx1 := hx0.step b1; have k0 := hx1.c0)
  have k1 := (hx1.below.cell (p := ⟨cb, co + r, none⟩) hclt).trans hcd
  go_wp2_with (first
    | (go_at_call 16; refine (HCl.out w1 hx1.below).mono ?_; rintro e w2 ⟨ao, n, cap, rfl, hown, b2⟩; clear HCl)
    | (go_at_call 17; refine (HN.out w2).mono ?_; rintro e w3 ⟨rfl, b3⟩; clear HN))
  go_ret2
  have hbA : Below w3.heap.size w3 (w3.alloc (gaO (.slice ao n cap) (newA p r))) := (Below.refl _ _).alloc (Nat.le_refl _) _
  have hcA : (newA p r).c = c := by
    show p.code.getD (r : Int).toNat [] = c
    rw [Int.toNat_natCast, List.getD, HCY.out]
    rfl
  have hbl : (w3.alloc (gaO (.slice ao n cap) (newA p r))).heap[w3.heap.size]? = some (gaO (.slice ao n cap) (newA p r)) := World.alloc_heap_new _ _
  have hs1 := hx1.below.size
  have hs2 := b2.size
  have hs3 := b3.size
  refine ⟨w3.heap.size, .slice ao n cap, ((Value.slice ao n cap).ownBlock).toList, rfl, ⟨hbl, fun w' hs hb => ?_, fun g hg => ?_, fun g hg => ?_, fun hg => ?_, Int.le_refl _⟩, hx1.below.trans ((b2.trans ((b3.trans (hbA.mono hs3)).mono hs2)).mono hs1)⟩
  · rw [hcA]
    refine gops_own (own_block (own_below (own_below hown b3 (Nat.le_refl _)) hbA (Nat.le_refl _)) (fun g hg => hb g (by simp [hg])))
  · rcases List.mem_cons.1 hg with e | e
    · omega
    · have := hown.lt g (by simpa using e)
      omega
  · exact Nat.lt_of_lt_of_le (hown.lt g (by simpa using hg)).2 (Nat.le_trans hs3 hbA.size)
  · have := (hown.lt _ (by simpa using hg)).2
    omega
end Go.Proofs.YtanndhamnfnjfafDoor
namespace Go.Proofs.YtanndhamnfnjfafDoor
open Go.RowKit

set_option maxRecDepth 100000 in
set_option maxHeartbeats 4000000 in
theorem alstate_any (a : AD) (ab base : Nat) (cv : Value) (F0 : List Nat) (w : World) (h : GA w base a ab cv F0) : Calls Tryd.prog 9 #[.pointer (some ⟨ab, 0, none⟩)] w fun e w' => e = .returned (stA a.s) ∧ Below w.heap.size w w' := by
  have hA : Below w.heap.size w (w.alloc (.cells #[.int .i64 0, .int .i64 0, .int .i64 0, .int .i64 0, .int .i64 0, .int .i64 0, .int .i64 0, .bool false] 39)) := (Below.refl _ _).alloc (Nat.le_refl _) _
  obtain ⟨_, _, c2, c3, c4, c5, c6, c7, c8, c9, _⟩ := gaO_cs ((h.all hA).blk)
  have hn : ab ≠ w.heap.size := by have := h.abl; omega
  clear h
  have hZ : (w.alloc (.cells #[.int .i64 0, .int .i64 0, .int .i64 0, .int .i64 0, .int .i64 0, .int .i64 0, .int .i64 0, .bool false] 39)).heap[w.heap.size]? = some (.cells #[.int .i64 0, .int .i64 0, .int .i64 0, .int .i64 0, .int .i64 0, .int .i64 0, .int .i64 0, .bool false] 39 (0, 0)) := World.alloc_heap_new _ _
  go_enter Tryd.func9, Tryd.ntmps9
  go_upto_region 1 with fail
  generalize w.alloc (.cells #[.int .i64 0, .int .i64 0, .int .i64 0, .int .i64 0, .int .i64 0, .int .i64 0, .int .i64 0, .bool false] 39) = w1 at hA hZ c2 c3 c4 c5 c6 c7 c8 c9 ⊢
  have z0 : w1.cell? ⟨w.heap.size, 0, none⟩ = some (.int .i64 0) := by simp [World.cell?, hZ]
  have z1 : w1.cell? ⟨w.heap.size, 1, none⟩ = some (.int .i64 0) := by simp [World.cell?, hZ]
  have z2 : w1.cell? ⟨w.heap.size, 2, none⟩ = some (.int .i64 0) := by simp [World.cell?, hZ]
  have z3 : w1.cell? ⟨w.heap.size, 3, none⟩ = some (.int .i64 0) := by simp [World.cell?, hZ]
  have z4 : w1.cell? ⟨w.heap.size, 4, none⟩ = some (.int .i64 0) := by simp [World.cell?, hZ]
  have z5 : w1.cell? ⟨w.heap.size, 5, none⟩ = some (.int .i64 0) := by simp [World.cell?, hZ]
  have z6 : w1.cell? ⟨w.heap.size, 6, none⟩ = some (.int .i64 0) := by simp [World.cell?, hZ]
  have z7 : w1.cell? ⟨w.heap.size, 7, none⟩ = some (.bool false) := by simp [World.cell?, hZ]
  have y : ∀ o, w1.frozen? ⟨w.heap.size, o, none⟩ = false := fun o => by simp [World.frozen?, hZ]
  have y0 := y 0
  have y1 := y 1
  have y2 := y 2
  have y3 := y 3
  have y4 := y 4
  have y5 := y 5
  have y6 := y 6
  have y7 := y 7
  clear y hZ
  go_wp2
  refine bodyPost_ret (v := stA a.s) ?_ rfl ⟨rfl, below_st8 hA _ (Nat.le_refl _) _ _ _ _ _ _ _ _⟩
  simp [results, Tryd.results9, go_sem, stA, z0, z1, z2, z3, z4, z5, z6, z7]
set_option maxRecDepth 100000 in
set_option maxHeartbeats 4000000 in
theorem alturns_any (a : AD) (ab base : Nat) (cv : Value) (F0 : List Nat) (w : World) (h : GA w base a ab cv F0) : Calls Tryd.prog 10 #[.pointer (some ⟨ab, 0, none⟩)] w fun e w' => e = .returned (.int .i64 a.t) ∧ w' = w := by
  have c10 := (gaO_cs h.blk).2.2.2.2.2.2.2.2.2.2
  clear h
  go_enter Tryd.func10, Tryd.ntmps10
  go_wp2
  go_ret
  exact ⟨rfl, rfl⟩
/-- A machine of one room, made since w0, and all its blocks. -/
def AG (w0 w : World) (a : AD) (ab : Nat) (F : List Nat) : Prop := ∃ cv F0, F = ab :: F0 ∧ GA w w0.heap.size a ab cv F0 ∧ Below w0.heap.size w0 w
def galn {G : World → Prop} (hG : ∀ w, G w → Forms w) (hall : ∀ w w', G w → Below w.heap.size w w' → G w') : AlnC G where
  A := AG
  all := hall
  since := fun ⟨_, _, _, _, hb⟩ => hb
  ge := fun ⟨_, _, hF, h, _⟩ g hg => by
    subst hF
    exact ⟨h.ge g hg, h.flt g hg⟩
  lower := fun h1 ⟨cv, F0, hF, h, hb⟩ => ⟨cv, F0, hF, h.lower h1.size, h1.trans (hb.mono h1.size)⟩
  frame := fun ⟨cv, F0, hF, h, hb⟩ ht hM => by
    subst hF
    exact ⟨cv, F0, rfl, h.frame ht (fun m hm => (hM m hm).1), hb.trans (ht.below (fun m hm => (hM m hm).2) hb.size)⟩
  new := fun p vc vs vw r W hg hP hp => by
    obtain ⟨h1, h2, h3⟩ := prgE_zero hp
    obtain ⟨r, rfl⟩ : ∃ n : Nat, r = n := ⟨r.toNat, by omega⟩
    refine (alnew_ok p vc vs vw r W (hG W hg) hP h1 (by omega)).mono ?_
    rintro e w' ⟨ab, cv, F0, rfl, h, hb⟩
    exact ⟨ab, _, rfl, cv, F0, rfl, h, hb⟩
  no := fun p vc vs vw r W hg hP hp => by
    by_cases h1 : plchk p = 0
    · by_cases hr : r < 0 ∨ (p.code.length : Int) ≤ r
      · have he : prgE p r = 1 := by
          unfold prgE
          rw [if_pos h1, if_pos hr]
        rw [he]
        exact alnew_out p vc vs vw r W (hG W hg) hP h1 hr
      · exfalso
        apply hp
        unfold prgE
        rw [if_pos h1, if_neg hr]
    · have he : prgE p r = plchk p := by
        unfold prgE
        rw [if_neg h1]
      rw [he]
      exact alnew_no p vc vs vw r W (hG W hg) hP h1
  step := fun {w0 W a ab F} got is hg ⟨cv, F0, hF, h, hb⟩ hx hn ht => by
    subst hF
    refine (alstep_ok a ab w0.heap.size cv F0 got is W ((hG w0 hg).all hb) h hx hn ht).mono ?_
    rintro e w' ⟨rfl, h1, h2⟩
    have h3 : KTouch (ab :: F0) W w' := h2.mono (fun m hm => by rw [List.mem_singleton] at hm; simp [hm])
    exact ⟨rfl, _, ⟨cv, F0, rfl, h1, hb.trans (h3.below h.ge hb.size)⟩, h3, fun g hg => Or.inl hg⟩
  refuse := fun {w0 W a ab F} got is hg ⟨cv, F0, hF, h, hb⟩ hx hn => alstep_no a ab w0.heap.size cv F0 got is W ((hG w0 hg).all hb) h hx hn
  state := fun {w0 W a ab F} ⟨cv, F0, _, h, _⟩ => alstate_any a ab _ cv F0 W h
  turns := fun {w0 W a ab F} ⟨cv, F0, _, h, _⟩ => (alturns_any a ab _ cv F0 W h).mono (fun e w' h => ⟨h.1, 0, h.2⟩)
end Go.Proofs.YtanndhamnfnjfafDoor
