/-
  frameref2.Purge: the walk.
-/
import Derived.Test.YtjbbpbhlbmmekaeGreatDoorJb4
import Derived.Deep.MidRow
namespace Go.Proofs.YtjbbpbhlbmmekaeGreatDoor
open Go.RowKit

set_option maxRecDepth 100000 in
set_option maxHeartbeats 8000000 in
theorem rpurge_any (p : PD) (vc vs vw : Value) (r : Nat) (w0 w : World) (hp : plchk p = 0) (hP0 : Pln w0 vc vs vw p) (hb0 : Below w0.heap.size w0 w) (hr : r < p.code.length) :
    Calls Tryz.prog 5 #[plV vc p.ticks vs vw, .int .i64 r] w fun e w' => ∃ ic, e = .returned (plV ic p.ticks vs vw) ∧ (∀ M W', KTouch M w' W' → (∀ m ∈ M, w0.heap.size ≤ m ∧ m < w.heap.size) → Pln W' ic vs vw (purgeP p (fun i => way p.wires i r))) ∧ Below w.heap.size w w' := by
  have hP := hP0.all hb0
  have hs0 := hb0.size
  obtain ⟨jj, hj, hy0, hy1, hy2⟩ := info_parts infoOps
  obtain ⟨ca, cc, rfl⟩ := hP.code.form
  obtain ⟨sa, sc, rfl⟩ := hP.spans.form
  obtain ⟨wa, wc', rfl⟩ := hP.wires.form
  obtain ⟨hc5, hc0, hfz, hwz, _, _, hcz, _⟩ := plchk_zero hp
  have hok := wschk_ok hwz
  have hr5 : r < 5 := by omega
  have HP : Hid (Pln w (.slice ca p.code.length cc) (.slice sa p.spans.length sc) (.slice wa p.wires.length wc') p) := hP
  have HP0 : Hid (Pln w0 (.slice ca p.code.length cc) (.slice sa p.spans.length sc) (.slice wa p.wires.length wc') p) := hP0
  have HB0 : Hid (Below w0.heap.size w0 w) := hb0
  have HW : Hid (∀ W, Below w.heap.size w W → Calls Tryz.prog 15 #[.slice wa p.wires.length wc'] W fun e w' => e = .returned (.agg (wayCells p.wires).toArray) ∧ Below W.heap.size W w') := fun W hb => ways_any p.wires _ W (hP.wires.all hb) hok.1 hok.2
  have HNE : Hid (∀ c ∈ p.code, c ≠ []) := fun c hc e => (chk_zero (codesE_zero hcz c hc)).1 (by rw [e]; rfl)
  unfold plV
  clear hP hP0 hb0 hok hwz hcz hfz
  have hA1 : Below w.heap.size w (w.alloc (.cells #[.slice ca p.code.length cc, .int .i64 p.ticks, .slice sa p.spans.length sc, .slice wa p.wires.length wc'] 26)) := (Below.refl _ _).alloc (Nat.le_refl _) _
  have hA2 : Below (w.heap.size + 2) ((w.alloc (.cells #[.slice ca p.code.length cc, .int .i64 p.ticks, .slice sa p.spans.length sc, .slice wa p.wires.length wc'] 26)).alloc (.cells #[.slice none 0 0, .int .i64 0, .slice none 0 0, .slice none 0 0] 26)) ((w.alloc (.cells #[.slice ca p.code.length cc, .int .i64 p.ticks, .slice sa p.spans.length sc, .slice wa p.wires.length wc'] 26)).alloc (.cells #[.slice none 0 0, .int .i64 0, .slice none 0 0, .slice none 0 0] 26)) := Below.refl _ _
  have hAB : Below w.heap.size w ((w.alloc (.cells #[.slice ca p.code.length cc, .int .i64 p.ticks, .slice sa p.spans.length sc, .slice wa p.wires.length wc'] 26)).alloc (.cells #[.slice none 0 0, .int .i64 0, .slice none 0 0, .slice none 0 0] 26)) := hA1.alloc (by simp) _
  generalize hWA : (w.alloc (.cells #[.slice ca p.code.length cc, .int .i64 p.ticks, .slice sa p.spans.length sc, .slice wa p.wires.length wc'] 26)).alloc (.cells #[.slice none 0 0, .int .i64 0, .slice none 0 0, .slice none 0 0] 26) = WA at hA2 hAB
  have hsA : WA.heap.size = w.heap.size + 2 := by rw [← hWA]; simp
  have d0 : WA.cell? ⟨w.heap.size, 0, none⟩ = some (.slice ca p.code.length cc) := by rw [← hWA]; simp [go_sem]
  have d1 : WA.cell? ⟨w.heap.size, 1, none⟩ = some (.int .i64 p.ticks) := by rw [← hWA]; simp [go_sem]
  have d2 : WA.cell? ⟨w.heap.size, 2, none⟩ = some (.slice sa p.spans.length sc) := by rw [← hWA]; simp [go_sem]
  have d3 : WA.cell? ⟨w.heap.size, 3, none⟩ = some (.slice wa p.wires.length wc') := by rw [← hWA]; simp [go_sem]
  have HZ : Hid (WA.cell? ⟨w.heap.size + 1, 0, none⟩ = some (.slice none 0 0) ∧ WA.cell? ⟨w.heap.size + 1, 1, none⟩ = some (.int .i64 0) ∧ WA.cell? ⟨w.heap.size + 1, 2, none⟩ = some (.slice none 0 0) ∧ WA.cell? ⟨w.heap.size + 1, 3, none⟩ = some (.slice none 0 0) ∧ WA.frozen? ⟨w.heap.size + 1, 0, none⟩ = false ∧ WA.frozen? ⟨w.heap.size + 1, 1, none⟩ = false ∧ WA.frozen? ⟨w.heap.size + 1, 2, none⟩ = false ∧ WA.frozen? ⟨w.heap.size + 1, 3, none⟩ = false) := by
    rw [← hWA]
    refine ⟨?_, ?_, ?_, ?_, ?_, ?_, ?_, ?_⟩ <;> simp [go_sem]
  have q1 := HW.out WA hAB
  clear hA1 hA2
  go_enter Tryz.func5, Tryz.ntmps5
  go_upto_region 1 with fail
  clear hWA
  go_wp2_with (first
    | (go_at_call 15; refine q1.mono ?_; rintro e w1 ⟨rfl, b1⟩; clear q1)
    | (refine wpList_store_mid rfl 55 _ _ rfl w1.heap.size 0 (wayCells p.wires).toArray rfl rfl (there_new w1 55) (by kernel_rfl) (way_one p.wires) ?_; rw [show (wayCells p.wires).toArray.toList = wayCells p.wires from rfl]; have cz := fun (i : Nat) (hi : i < 5) => ways_cell w1 p.wires 55 hi hr5; have Bz := below_cells (b1.alloc b1.size (.cells z25 55)) b1.size (wayCells p.wires) 0; have sz : w1.heap.size + 1 ≤ ((w1.alloc (.cells z25 55)).setCells w1.heap.size 0 (wayCells p.wires)).heap.size := (by have := (below_cells (Below.refl w1.heap.size (w1.alloc (.cells z25 55))) (Nat.le_refl _) (wayCells p.wires) 0).size; rw [World.size_alloc] at this; exact this); unfold z25 at cz Bz sz; generalize World.setCells _ w1.heap.size 0 (wayCells p.wires) = wz at cz Bz sz ⊢; have HC : Hid (∀ (i : Nat), i < 5 → wz.cell? ⟨w1.heap.size, i * 5 + r, none⟩ = some (.bool (way p.wires i r))) := cz; clear cz; have e0 := (Bz.cell (p := ⟨w.heap.size, 0, none⟩) (show w.heap.size < WA.heap.size by omega)).trans d0; have e1 := (Bz.cell (p := ⟨w.heap.size, 1, none⟩) (show w.heap.size < WA.heap.size by omega)).trans d1; have e2 := (Bz.cell (p := ⟨w.heap.size, 2, none⟩) (show w.heap.size < WA.heap.size by omega)).trans d2; have e3 := (Bz.cell (p := ⟨w.heap.size, 3, none⟩) (show w.heap.size < WA.heap.size by omega)).trans d3; clear d0 d1 d2 d3))
  have hsw : WA.heap.size ≤ w1.heap.size := b1.size
  have hsk : wz.heap.size < (wz.alloc (.cells #[.slice none 0 0, .int .i64 p.ticks, .slice sa p.spans.length sc, .slice wa p.wires.length wc'] 26)).heap.size := by simp
  have hB2 : Below wz.heap.size wz (wz.alloc (.cells #[.slice none 0 0, .int .i64 p.ticks, .slice sa p.spans.length sc, .slice wa p.wires.length wc'] 26)) := (Below.refl _ _).alloc (Nat.le_refl _) _
  have hst : QP w0.heap.size (wz.alloc (.cells #[.slice none 0 0, .int .i64 p.ticks, .slice sa p.spans.length sc, .slice wa p.wires.length wc'] 26)) (wz.alloc (.cells #[.slice none 0 0, .int .i64 p.ticks, .slice sa p.spans.length sc, .slice wa p.wires.length wc'] 26)) p (fun i => way p.wires i r) wz.heap.size (.slice sa p.spans.length sc) (.slice wa p.wires.length wc') (.slice none 0 0) [] :=
    ⟨KTouch.refl _ _, by simp, by omega, World.alloc_heap_new _ _, World.ownsRow_nil _ _ _ _, fun i u c h => (by simp at h), fun u hu => (by cases hu), Nat.zero_le _⟩
  have HBz : Hid (Below WA.heap.size WA wz) := Bz
  replace e0 := (hB2.cell (p := ⟨w.heap.size, 0, none⟩) (show w.heap.size < wz.heap.size by omega)).trans e0
  have HC2 : Hid (∀ (i : Nat), i < 5 → (wz.alloc (.cells #[.slice none 0 0, .int .i64 p.ticks, .slice sa p.spans.length sc, .slice wa p.wires.length wc'] 26)).cell? ⟨w1.heap.size, i * 5 + r, none⟩ = some (.bool (way p.wires i r))) := fun i hi => (hB2.cell (p := ⟨w1.heap.size, _, none⟩) (show w1.heap.size < wz.heap.size by omega)).trans (HC.out i hi)
  have HB3 : Hid (Below w.heap.size w (wz.alloc (.cells #[.slice none 0 0, .int .i64 p.ticks, .slice sa p.spans.length sc, .slice wa p.wires.length wc'] 26))) := (hAB.trans (Bz.mono hAB.size)).trans (hB2.mono (by omega))
  have HZ2 : Hid (∀ j, (wz.alloc (.cells #[.slice none 0 0, .int .i64 p.ticks, .slice sa p.spans.length sc, .slice wa p.wires.length wc'] 26)).cell? ⟨w.heap.size + 1, j, none⟩ = WA.cell? ⟨w.heap.size + 1, j, none⟩ ∧ (wz.alloc (.cells #[.slice none 0 0, .int .i64 p.ticks, .slice sa p.spans.length sc, .slice wa p.wires.length wc'] 26)).frozen? ⟨w.heap.size + 1, j, none⟩ = WA.frozen? ⟨w.heap.size + 1, j, none⟩) := fun j => by
    have hb := (Bz.trans (hB2.mono (by omega)))
    exact ⟨hb.cell (p := ⟨w.heap.size + 1, j, none⟩) (show w.heap.size + 1 < WA.heap.size by omega), hb.frozen (p := ⟨w.heap.size + 1, j, none⟩) (show w.heap.size + 1 < WA.heap.size by omega)⟩
  clear hB2 HC e1 e2 e3 Bz b1
  generalize wz.alloc (.cells #[.slice none 0 0, .int .i64 p.ticks, .slice sa p.spans.length sc, .slice wa p.wires.length wc'] 26) = w2 at *
  go_loopw [7] (fun i wr => ∃ us cv, i = .int .i64 (us.length : Nat) ∧ QP w0.heap.size w2 wr p (fun i => way p.wires i r) wz.heap.size (.slice sa p.spans.length sc) (.slice wa p.wires.length wc') cv us) (fun i _ => p.code.length - (intOf i).toNat)
  case atStart => exact ⟨[], _, rfl, hst⟩
  case round =>
    clear hst
    obtain ⟨us, cv, rfl, hq⟩ := hrel
    have hlen := hq.len
    obtain ⟨vo, vn, vk, rfl⟩ := own_form hq.own
    have htk := hq.tk
    have hsr := htk.size
    have f0 : wr.cell? ⟨w.heap.size, 0, none⟩ = some (.slice ca p.code.length cc) := (World.cell?_of_block (w := w2) (a := ⟨w.heap.size, 0, none⟩) (htk.block w.heap.size (by omega) (by simp; omega))).trans e0
    by_cases hkl : us.length < p.code.length
    · have hki : (us.length : Int) < (p.code.length : Int) := by omega
      obtain ⟨cb, co, ua, un, ug, c, rfl, hclt, hcy, hcd, rfl, hops⟩ := HP0.out.code.at hkl
      have hbw0 := HB0.out
      have hbw : Below w.heap.size w wr := HB3.out.trans (htk.below (fun m hm => by rw [List.mem_singleton] at hm; omega) (by omega))
      replace hbw0 := hbw0.trans (hbw.mono hs0)
      replace hcd := (hbw0.cell (p := ⟨cb, _, none⟩) hclt).trans hcd
      have hcw : wr.cell? ⟨w1.heap.size, us.length * 5 + r, none⟩ = some (.bool (way p.wires us.length r)) := (World.cell?_of_block (w := w2) (a := ⟨w1.heap.size, _, none⟩) (htk.block w1.heap.size (by omega) (by simp; omega))).trans (HC2.out us.length (by omega))
      obtain ⟨qc, _, _, _, qf⟩ := hq.cs
      have hown0 := hq.own
      have HQ : Hid (QP w0.heap.size w2 wr p (fun i => way p.wires i r) wz.heap.size (.slice sa p.spans.length sc) (.slice wa p.wires.length wc') (.slice vo vn vk) us) := hq
      have HCY : Hid (p.code[us.length]? = some c) := hcy
      have HOP : Hid (Ops wr (.slice ua c.length ug) c) := hops.all hbw0
      have HOL : Hid (∀ g, (Value.slice ua c.length ug).ownBlock = some g → g < w0.heap.size) := hops.lt (HNE.out c (List.mem_of_getElem? hcy))
      have hr5i : (r : Int) < 5 := by omega
      have hl5i : (us.length : Int) < 5 := by omega
      have hl5 : us.length < 5 := by omega
      clear hops hcy hq htk hbw hbw0
      cases hway : way p.wires us.length r with
      | true =>
        rw [hway] at hcw
        have HWY : Hid (way p.wires us.length r = true) := hway
        clear hway
        go_wp2_with (at_builtin; refine wpList_append_at _ rfl _ _ 22 rfl w2.heap.size 51 jj _ 1 24 Tryz.underlying22 hj hy0 hy1 hy2 rfl (by decide) _ _ _ rfl (hown0.alloc _) ⟨wr.heap.size, 0, none⟩ 1 1 [.slice ua c.length ug] rfl rfl ?c1A ?c2A ?c3A ?c4A ?c5A ?_)
        case c1A => exact one_new_at rfl _ _
        case c2A => intro u hu; simp at hu; subst hu; rfl
        case c3A => unfold maxLen; omega
        case c4A => omega
        case c5A => simp; omega
        intro v1 w8 own8 hg8 hnw8
        have hk8 : w8.heap[wz.heap.size]? = wr.heap[wz.heap.size]? := (hg8.block wz.heap.size (by simp; omega) (fun e => by have := (hown0.lt wz.heap.size e.symm).1; omega)).trans (((Below.refl wr.heap.size wr).alloc (Nat.le_refl _) _).block _ (by omega))
        have s8 : w8.cell? ⟨wz.heap.size, 0, none⟩ = some (.slice vo vn vk) := (World.cell?_of_block (w := wr) (a := ⟨wz.heap.size, 0, none⟩) hk8).trans qc
        have g8 : w8.frozen? ⟨wz.heap.size, 0, none⟩ = false := (World.frozen?_of_block (w := wr) (a := ⟨wz.heap.size, 0, none⟩) hk8).trans qf
        have HM : Hid (QP w0.heap.size w2 (w8.setCell ⟨wz.heap.size, 0, none⟩ v1) p (fun i => way p.wires i r) wz.heap.size (.slice sa p.spans.length sc) (.slice wa p.wires.length wc') v1 (us ++ [.slice ua c.length ug])) := HQ.out.more HCY.out (Below.refl _ _) (by simp only [HWY.out, if_true]; exact HOP.out) (fun g hg => ⟨Or.inl (HOL.out g hg), by have := HOL.out g hg; omega⟩) hg8 own8 (fun g hg => by have := hnw8 g hg; simpa using this)
        obtain ⟨gb, cap8, rfl⟩ := own_succ own8
        clear own8 hg8 hnw8 hown0 hk8
        go_wp2
        go_roundw
        case rel => exact ⟨us ++ [.slice ua c.length ug], _, by rw [List.length_append, List.length_singleton]; go_num, HM.out⟩
        case measure => simp [intOf]; omega
      | false =>
        rw [hway] at hcw
        have HWY : Hid (way p.wires us.length r = false) := hway
        have hnk : wr.heap.size ≠ wz.heap.size := by omega
        have qc2 : (wr.alloc (.cells #[.int .i64 10, .int .i64 0, .int .i64 0] 58)).cell? ⟨wz.heap.size, 0, none⟩ = some (.slice vo vn vk) := (((Below.refl wr.heap.size wr).alloc (Nat.le_refl _) _).cell (p := ⟨wz.heap.size, 0, none⟩) (show wz.heap.size < wr.heap.size by omega)).trans qc
        clear hway
        go_wp2_with (at_builtin; refine wpList_append_at _ rfl _ _ 22 rfl w2.heap.size 51 jj _ 1 24 Tryz.underlying22 hj hy0 hy1 hy2 rfl (by decide) _ _ _ rfl ((hown0.alloc _).alloc _) ⟨wr.heap.size + 1, 0, none⟩ 1 1 [.slice (some ⟨wr.heap.size, 0, none⟩) 1 1] rfl rfl ?c1A ?c2A ?c3A ?c4A ?c5A ?_)
        case c1A => exact one_new_at (by simp) _ _
        case c2A => intro u hu; simp at hu; subst hu; rfl
        case c3A => unfold maxLen; omega
        case c4A => omega
        case c5A => simp; omega
        intro v1 w8 own8 hg8 hnw8
        have hk8 : w8.heap[wz.heap.size]? = wr.heap[wz.heap.size]? := (hg8.block wz.heap.size (by simp; omega) (fun e => by have := (hown0.lt wz.heap.size e.symm).1; omega)).trans ((((Below.refl wr.heap.size wr).alloc (Nat.le_refl _) _).alloc (by simp) _).block _ (by omega))
        have s8 : w8.cell? ⟨wz.heap.size, 0, none⟩ = some (.slice vo vn vk) := (World.cell?_of_block (w := wr) (a := ⟨wz.heap.size, 0, none⟩) hk8).trans qc
        have g8 : w8.frozen? ⟨wz.heap.size, 0, none⟩ = false := (World.frozen?_of_block (w := wr) (a := ⟨wz.heap.size, 0, none⟩) hk8).trans qf
        have HM : Hid (QP w0.heap.size w2 (w8.setCell ⟨wz.heap.size, 0, none⟩ v1) p (fun i => way p.wires i r) wz.heap.size (.slice sa p.spans.length sc) (.slice wa p.wires.length wc') v1 (us ++ [.slice (some ⟨wr.heap.size, 0, none⟩) 1 1])) := HQ.out.more HCY.out ((Below.refl _ _).alloc (Nat.le_refl _) _) (by simp only [HWY.out, Bool.false_eq_true, if_false]; exact rest_ops rfl) (fun g hg => by simp only [Value.ownBlock, Option.some.injEq] at hg; subst hg; exact ⟨Or.inr (Nat.le_refl _), by simp⟩) hg8 own8 (fun g hg => by have := hnw8 g hg; simpa using this)
        obtain ⟨gb, cap8, rfl⟩ := own_succ own8
        clear own8 hg8 hnw8 hown0 hk8
        go_wp2
        go_roundw
        case rel => exact ⟨us ++ [.slice (some ⟨wr.heap.size, 0, none⟩) 1 1], _, by rw [List.length_append, List.length_singleton]; go_num, HM.out⟩
        case measure => simp [intOf]; omega
    · have hul : us.length = p.code.length := by omega
      have hki : decide ((us.length : Int) < (p.code.length : Int)) = false := decide_eq_false (by omega)
      have hki' : decide (us.length < p.code.length) = false := decide_eq_false (by omega)
      obtain ⟨q0, q1, q2, q3, _⟩ := hq.cs
      have hbk : ∀ j, wr.cell? ⟨w.heap.size + 1, j, none⟩ = w2.cell? ⟨w.heap.size + 1, j, none⟩ ∧ wr.frozen? ⟨w.heap.size + 1, j, none⟩ = w2.frozen? ⟨w.heap.size + 1, j, none⟩ := fun j => ⟨World.cell?_of_block (w := w2) (a := ⟨w.heap.size + 1, j, none⟩) (htk.block (w.heap.size + 1) (by omega) (by simp; omega)), World.frozen?_of_block (w := w2) (a := ⟨w.heap.size + 1, j, none⟩) (htk.block (w.heap.size + 1) (by omega) (by simp; omega))⟩
      obtain ⟨z0, z1, z2, z3, y0, y1, y2, y3⟩ := HZ.out
      replace z0 := ((hbk 0).1.trans (HZ2.out 0).1).trans z0
      replace z1 := ((hbk 1).1.trans (HZ2.out 1).1).trans z1
      replace z2 := ((hbk 2).1.trans (HZ2.out 2).1).trans z2
      replace z3 := ((hbk 3).1.trans (HZ2.out 3).1).trans z3
      replace y0 := ((hbk 0).2.trans (HZ2.out 0).2).trans y0
      replace y1 := ((hbk 1).2.trans (HZ2.out 1).2).trans y1
      replace y2 := ((hbk 2).2.trans (HZ2.out 2).2).trans y2
      replace y3 := ((hbk 3).2.trans (HZ2.out 3).2).trans y3
      have hbw : Below w.heap.size w wr := HB3.out.trans (htk.below (fun m hm => by rw [List.mem_singleton] at hm; omega) (by omega))
      have HQ : Hid (QP w0.heap.size w2 wr p (fun i => way p.wires i r) wz.heap.size (.slice sa p.spans.length sc) (.slice wa p.wires.length wc') (.slice vo vn vk) us) := hq
      have hne : wz.heap.size ≠ w.heap.size + 1 := by omega
      clear hq htk hbk
      go_wp2
      refine bodyPost_ret (v := plV (.slice vo vn vk) p.ticks (.slice sa p.spans.length sc) (.slice wa p.wires.length wc')) ?_ rfl ⟨.slice vo vn vk, rfl, ?_, ?_⟩
      · simp [results, Tryz.results5, go_sem, plV, z0, z1, z2, z3]
      · intro M W' htM hM
        have htk : KTouch [w.heap.size + 1] wr ((((wr.setCell ⟨w.heap.size + 1, 0, none⟩ (.slice vo vn vk)).setCell ⟨w.heap.size + 1, 1, none⟩ (.int .i64 p.ticks)).setCell ⟨w.heap.size + 1, 2, none⟩ (.slice sa p.spans.length sc)).setCell ⟨w.heap.size + 1, 3, none⟩ (.slice wa p.wires.length wc')) :=
          (((KTouch.set wr (by simp) 0 _).trans (KTouch.set _ (by simp) 1 _)).trans (KTouch.set _ (by simp) 2 _)).trans (KTouch.set _ (by simp) 3 _)
        have htt : KTouch ((w.heap.size + 1) :: M) wr W' := (htk.mono (fun m hm => by rw [List.mem_singleton] at hm; simp [hm])).trans (htM.mono (fun m hm => by simp [hm]))
        have hMM : ∀ m ∈ (w.heap.size + 1) :: M, w0.heap.size ≤ m ∧ m < w2.heap.size := fun m hm => by
          rcases List.mem_cons.1 hm with h | h
          · omega
          · have := hM m h
            omega
        have hb4 : Below w0.heap.size w0 W' := (HB0.out.trans (hbw.mono hs0)).trans (htt.below (fun m hm => (hMM m hm).1) (by omega))
        exact ⟨HQ.out.cds hul htt hMM, HP0.out.spans.all hb4, HP0.out.wires.all hb4⟩
      · exact (((hbw.setCell (p := ⟨w.heap.size + 1, 0, none⟩) (Nat.le_succ _) _).setCell (p := ⟨w.heap.size + 1, 1, none⟩) (Nat.le_succ _) _).setCell (p := ⟨w.heap.size + 1, 2, none⟩) (Nat.le_succ _) _).setCell (p := ⟨w.heap.size + 1, 3, none⟩) (Nat.le_succ _) _
end Go.Proofs.YtjbbpbhlbmmekaeGreatDoor
