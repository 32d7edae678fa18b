/-
  Package kernel: New.
-/
import Derived.Test.YtajfgmlockjmhaiGreatDoorJt17
import Derived.Test.YtajfgmlockjmhaiGreatDoorJt18
import Derived.Test.YtajfgmlockjmhaiGreatDoorJt12
import Derived.Test.YtajfgmlockjmhaiGreatDoorJt1
import Derived.Deep.RegionHeld3
import Derived.Deep.CutRange
import Derived.Deep.RegionWith
import Derived.BigQuiet
import Derived.RangeFuncNested
namespace Go.Proofs.YtajfgmlockjmhaiGreatDoor
open Go.RowKit

set_option maxRecDepth 100000 in
set_option maxHeartbeats 4000000 in
theorem gnew_no (p : PD) (vc vs vw : Value) (w : World) (hfm : Forms w) (hP : Pln w vc vs vw p) (hp : plchk p ≠ 0) :
    Calls Tryz.prog 9 #[plV vc p.ticks vs vw] w fun e w' => ∃ x, e = .returned (.tuple #[.pointer x, wErr (plchk p)]) ∧ Below w.heap.size w w' := by
  obtain ⟨ca, cc, rfl⟩ := hP.code.form
  obtain ⟨sa, sc, rfl⟩ := hP.spans.form
  obtain ⟨wa, wc', rfl⟩ := hP.wires.form
  have hA : Below w.heap.size w (w.alloc (.cells #[.slice ca p.code.length cc, .int .i64 p.ticks, .slice sa p.spans.length sc, .slice wa p.wires.length wc'] 26)) := (Below.refl _ _).alloc (Nat.le_refl _) _
  have hc := plcheck_any p _ _ _ _ (hfm.all hA) (hP.all hA)
  unfold plV at hc ⊢
  rw [wErr_not hp] at hc ⊢
  generalize plchk p = ec at hc hp ⊢
  clear hP hfm
  go_enter Tryz.func9, Tryz.ntmps9
  go_wp2_with (go_at_call 34; refine hc.mono ?_; rintro e w1 ⟨rfl, b1⟩; clear hc)
  go_ret2
  exact ⟨none, rfl, hA.trans (b1.mono hA.size)⟩
theorem N1.box {w W0 W : World} {kb m : Nat} {p : PD} {sv cv rv vc vs vw : Value} {us : List Value} (h : N1 W0 W kb p sv cv rv us m) (hx : Bx w W0 vc p.ticks vs vw) (hk : w.heap.size + 1 ≤ kb) : Bx w W vc p.ticks vs vw := Below.trans hx (h.tk.below (fun b hb => by rw [List.mem_singleton] at hb; omega) hx.size)
theorem N2.box {w W0 W : World} {kb : Nat} {p : PD} {sv cv rv lv vc vs vw : Value} {bs : List Nat} (h : N2 W0 W kb p cv sv rv lv bs) (hx : Bx w W0 vc p.ticks vs vw) (hk : w.heap.size + 1 ≤ kb) : Bx w W vc p.ticks vs vw := Below.trans hx (h.tk.below (fun b hb => by rw [List.mem_singleton] at hb; omega) hx.size)
set_option maxRecDepth 100000 in
set_option maxHeartbeats 16000000 in
theorem gnew_ok (p : PD) (vc vs vw : Value) (w : World) (hfm : Forms w) (hP : Pln w vc vs vw p) (hp : plchk p = 0) :
    Calls Tryz.prog 9 #[plV vc p.ticks vs vw] w fun e w' => ∃ kb a, e = .returned (.tuple #[.pointer (some ⟨kb, 0, none⟩), .nilIface]) ∧ GK w' w.heap.size p (newK p) kb a ∧ Below w.heap.size w w' := by
  obtain ⟨ca, cc, rfl⟩ := hP.code.form
  obtain ⟨sa, sc, rfl⟩ := hP.spans.form
  obtain ⟨wa, wc', rfl⟩ := hP.wires.form
  obtain ⟨hc5, hc0, hfz, hwz, _, _, hcz, _⟩ := plchk_zero hp
  have hsl : p.spans.length ≤ 12 := (fchk_zero hfz).2.2.1
  have hx0 := Bx.first w (.slice ca p.code.length cc) p.ticks (.slice sa p.spans.length sc) (.slice wa p.wires.length wc')
  have HP : Hid (Pln w (.slice ca p.code.length cc) (.slice sa p.spans.length sc) (.slice wa p.wires.length wc') p) := hP
  have HCk : Hid (Calls Tryz.prog 34 #[.agg #[.slice ca p.code.length cc, .int .i64 p.ticks, .slice sa p.spans.length sc, .slice wa p.wires.length wc']] (w.alloc (.cells #[.slice ca p.code.length cc, .int .i64 p.ticks, .slice sa p.spans.length sc, .slice wa p.wires.length wc'] 26)) fun e w' => e = .returned .nilIface ∧ Below (w.heap.size + 1) (w.alloc (.cells #[.slice ca p.code.length cc, .int .i64 p.ticks, .slice sa p.spans.length sc, .slice wa p.wires.length wc'] 26)) w') := by
    have := plcheck_any p _ _ _ _ (hfm.all hx0.below) (hP.all hx0.below)
    rw [hp, World.size_alloc] at this
    exact this
  unfold plV
  clear hP hx0
  go_enter Tryz.func9, Tryz.ntmps9
  go_upto_region 4 with (go_at_call 34; refine HCk.out.mono ?_; rintro e w1 ⟨rfl, b1⟩)
  have hx1 : Bx w w1 (.slice ca p.code.length cc) p.ticks (.slice sa p.spans.length sc) (.slice wa p.wires.length wc') := b1
  clear HCk b1
  go_cut [5] from 17 to 23 (fun s5 wx => ∃ kb sv, s5 = .pointer (some ⟨kb, 0, none⟩) ∧ Bx w wx (.slice ca p.code.length cc) p.ticks (.slice sa p.spans.length sc) (.slice wa p.wires.length wc') ∧ w.heap.size + 1 ≤ kb ∧ kb < wx.heap.size ∧ GB wx kb (.slice none 0 0) p.ticks sv (.slice none 0 0) (.slice none 0 0) ∧ wx.ownsRow (w.heap.size + 1) 82 3 sv p.spans.length (spCells p.spans) ∧ ∀ g, sv.ownBlock = some g → g ≠ kb)
  case first =>
    have HCl : Hid (∀ W, Bx w W (.slice ca p.code.length cc) p.ticks (.slice sa p.spans.length sc) (.slice wa p.wires.length wc') → Calls Tryz.prog 35 #[.slice sa p.spans.length sc] W fun e w' => ∃ ao n cap, e = .returned (.slice ao n cap) ∧ w'.ownsRow W.heap.size 82 3 (.slice ao n cap) p.spans.length (spCells p.spans) ∧ Below W.heap.size W w') := fun W hb => by
      refine (clone_sps p.spans _ W (HP.out.spans.all hb.below) (by omega)).mono ?_
      rintro e w' ⟨v, rfl, h1, h2⟩
      obtain ⟨ao, n, cap, rfl⟩ := own_form h1
      exact ⟨ao, n, cap, rfl, h1, h2⟩
    have k1 := hx1.c1
    have k2 := hx1.c2
    have hq : ∀ W, Bx w W (.slice ca p.code.length cc) p.ticks (.slice sa p.spans.length sc) (.slice wa p.wires.length wc') → W.cell? ⟨w.heap.size, 1, none⟩ = some (.int .i64 p.ticks) ∧ W.cell? ⟨w.heap.size, 2, none⟩ = some (.slice sa p.spans.length sc) := fun W hb => ⟨hb.c1, hb.c2⟩
    have hx2 : Bx w w1.drew (.slice ca p.code.length cc) p.ticks (.slice sa p.spans.length sc) (.slice wa p.wires.length wc') := hx1.step (Below.refl _ _).drew
    go_region_held3 (fun w' => w'.cell? ⟨w.heap.size, 1, none⟩ = some (.int .i64 p.ticks) ∧ w'.cell? ⟨w.heap.size, 2, none⟩ = some (.slice sa p.spans.length sc))
      (first | exact ⟨k1, k2⟩ | exact hq _ hx3 | exact hq _ (hx3.step ((Below.refl _ _).alloc (Nat.le_refl _) _)) | go_keep)
      (first
        | (go_at_call 35; refine (HCl.out _ hx2).mono ?_; rintro e w3 ⟨ao, n, cap, rfl, hown, b3⟩; have hx3 : Bx w w3 (.slice ca p.code.length cc) p.ticks (.slice sa p.spans.length sc) (.slice wa p.wires.length wc') := hx2.step b3))
    go_wp2_with fail
    go_meet
    case rel =>
      have hs1 := hx1.size
      have hs3 := hx3.size
      have hd : w1.drew.heap.size = w1.heap.size := rfl
      rw [hd] at hown
      have hb4 : Below w3.heap.size w3 (w3.alloc (.cells #[.slice none 0 0, .int .i64 p.ticks, .slice ao n cap, .slice none 0 0, .slice none 0 0, .int .i64 0] 85)) := (Below.refl _ _).alloc (Nat.le_refl _) _
      refine ⟨w3.heap.size, .slice ao n cap, rfl, hx3.step hb4, hs3, by simp, World.alloc_heap_new _ _, own_base (own_below hown hb4 (Nat.le_refl _)) hs1, fun g hg => ?_⟩
      have := (hown.lt g hg).2
      omega
  case rest =>
  obtain ⟨kb, sv, rfl, hxc, hkb0, hkb1, hgb, hsp, hspk⟩ := hcut
  clear hx1
  generalize wc = W0 at *
  have HSP : Hid (W0.ownsRow (w.heap.size + 1) 82 3 sv p.spans.length (spCells p.spans) ∧ ∀ g, sv.ownBlock = some g → g ≠ kb) := ⟨hsp, hspk⟩
  clear hsp hspk
  have k0 := hxc.c0
  go_upto_region 6 with fail
  go_loopw [27] (fun i wr => ∃ us cv rv, i = .int .i64 (us.length : Nat) ∧ N1 W0 wr kb p sv cv rv us us.length) (fun i _ => p.code.length - (intOf i).toNat)
  case atStart => exact ⟨[], _, _, rfl, N1.first hkb1 hgb⟩
  case round =>
    clear hgb k0
    obtain ⟨us, cv, rv, rfl, hn1⟩ := hrel
    have hlen := hn1.len
    by_cases hkl : us.length < p.code.length
    · have hki : (us.length : Int) < (p.code.length : Int) := by omega
      have hbx := hn1.box hxc hkb0
      obtain ⟨cb, co, ua, un, ug, c, rfl, hclt, hcy, hcd, rfl, hops⟩ := HP.out.code.at hkl
      replace hcd := (hbx.below.cell (p := ⟨cb, _, none⟩) hclt).trans hcd
      have HCY : Hid (p.code[us.length]? = some c) := hcy
      have hcl : c.length ≤ 20 := (chk_zero (codesE_zero hcz c (List.mem_of_getElem? hcy))).2.1
      have HCl : Hid (∀ W, Below wr.heap.size wr W → Calls Tryz.prog 36 #[.slice ua c.length ug] W fun e w' => ∃ ao n cap, e = .returned (.slice ao n cap) ∧ w'.ownsRow W.heap.size 28 3 (.slice ao n cap) c.length (spCells c) ∧ Below W.heap.size W w') := fun W hb => by
        refine (clone_ops c _ W (hops.all (hbx.below.trans (hb.mono (Nat.le_trans (Nat.le_succ _) hbx.size)))) (by omega)).mono ?_
        rintro e w' ⟨v, rfl, h1, h2⟩
        obtain ⟨ao, n, cap, rfl⟩ := own_form h1
        exact ⟨ao, n, cap, rfl, h1, h2⟩
      have HN : Hid (N1 W0 wr kb p sv cv rv us us.length) := hn1
      have c0 := hn1.blk.cs.1
      have hkr : kb < wr.heap.size := Nat.lt_of_lt_of_le hn1.kl hn1.tk.size
      clear hn1 hops hcy hbx
      have bQ : Below wr.heap.size wr wr.drew := (Below.refl _ _).drew
      go_upto_region 8 with fail
      refine wp_region_popped (fun W => W.cell? ⟨kb, 0, none⟩ = some cv) (by kernel_rfl) rfl (by decide +kernel) c0 (fun hHeld => ?_)
      simp only [List.pop_toArray, List.dropLast_cons_cons, List.dropLast_singleton, List.size_toArray, List.length_cons, List.length_nil, Nat.reduceAdd, Array.replicate_succ, Array.replicate_zero, List.push_toArray, List.nil_append, List.cons_append]
      refine wpAnyH_take (i := 0) (v := ?_) rfl (by decide +kernel) (by decide +kernel) (by decide +kernel) (fun _ _ _ h => h) (Or.inl ⟨by rfl, ?_⟩) (by assumption) ?_
      rotate_left
      · intro W hSw
        try dsimp only at hSw
        go_simp
        try with_reducible rfl
      simp only [Act.put, List.setIfInBounds_toArray, List.set_cons_zero]
      refine wpAnyH_take (i := 1) (v := ?_) rfl (by decide +kernel) (by decide +kernel) (by decide +kernel) (fun _ _ _ h => h) (Or.inl ⟨by rfl, ?_⟩) (by assumption) ?_
      rotate_left
      · intro W hSw
        try dsimp only at hSw
        go_simp
        try with_reducible rfl
      simp only [Act.put, List.setIfInBounds_toArray, List.set_cons_zero, List.set_cons_succ]
      refine wpAnyH_take (i := 2) (v := ?_) rfl (by decide +kernel) (by decide +kernel) (by decide +kernel) (fun _ _ _ h => h) (Or.inl ⟨by rfl, ?_⟩) (by assumption) ?_
      rotate_left
      · intro W hSw
        try dsimp only at hSw
        go_simp
        try with_reducible rfl
      simp only [Act.put, List.setIfInBounds_toArray, List.set_cons_zero, List.set_cons_succ]
      refine wpAnyH_take (i := 3) (v := ?_) rfl (by decide +kernel) (by decide +kernel) (by decide +kernel) (fun _ _ _ h => h) (Or.inl ⟨by rfl, ?_⟩) (by assumption) ?_
      rotate_left
      · intro W hSw
        try dsimp only at hSw
        go_simp
        try with_reducible rfl
      simp only [Act.put, List.setIfInBounds_toArray, List.set_cons_zero, List.set_cons_succ]
      refine wpAnyH_take (i := 4) (v := ?_) rfl (by decide +kernel) (by decide +kernel) (by decide +kernel) (fun _ _ _ h => h) (Or.inl ⟨by rfl, ?_⟩) (by assumption) ?_
      rotate_left
      · intro W hSw
        try dsimp only at hSw
        go_simp
        try with_reducible rfl
      simp only [Act.put, List.setIfInBounds_toArray, List.set_cons_zero, List.set_cons_succ]
      refine wpAnyH_take (i := 5) (v := ?_) rfl (by decide +kernel) (by decide +kernel) (by decide +kernel) (fun _ _ _ h => h) (Or.inl ⟨by rfl, ?_⟩) (by assumption) ?_
      rotate_left
      · intro W hSw
        try dsimp only at hSw
        go_simp
        try with_reducible rfl
      simp only [Act.put, List.setIfInBounds_toArray, List.set_cons_zero, List.set_cons_succ]
      refine wpAnyH_ready (rs := [6]) (by decide +kernel) (by simp) ?_
      refine AllReadyH.cons (o := _) rfl (fun K hK => ?_) AllReadyH.nil
      go_simp
      go_at_call 36
      refine (HCl.out _ bQ).mono ?_
      rintro e w8 ⟨vo, vn, vk, rfl, hown8, b8⟩
      replace b8 := bQ.trans (b8.mono (Nat.le_refl _))
      have s8 : w8.cell? ⟨kb, 0, none⟩ = some cv := (b8.cell (p := ⟨kb, 0, none⟩) hkr).trans c0
      go_wp2_with fail
      refine hK.out _ _ s8 (fun hHeld => ?_)
      clear hK K
      simp only [List.setIfInBounds_toArray, List.set_cons_zero, List.set_cons_succ]
      refine wpAnyH_ready (rs := [7]) (by decide +kernel) (by simp) ?_
      refine AllReadyH.cons (o := _) rfl (fun K hK => ?_) AllReadyH.nil
      go_simp
      have b9 : Below wr.heap.size wr (w8.alloc (.cells #[.slice vo vn vk] 29)) := b8.alloc b8.size _
      have s9 : (w8.alloc (.cells #[.slice vo vn vk] 29)).cell? ⟨kb, 0, none⟩ = some cv := (b9.cell (p := ⟨kb, 0, none⟩) hkr).trans c0
      refine hK.out _ _ s9 (fun hHeld => ?_)
      clear hK K
      simp only [List.setIfInBounds_toArray, List.set_cons_zero, List.set_cons_succ]
      refine wpAnyH_ready (rs := [8]) (by decide +kernel) (by simp) ?_
      refine AllReadyH.cons (o := _) rfl (fun K hK => ?_) AllReadyH.nil
      obtain ⟨iT, hiT, hz1, hz2, hz3⟩ := info3 infoOps
      have hro9 := own_below HN.out.code b9 (Nat.le_refl _)
      have hs09 : W0.heap.size ≤ (w8.alloc (.cells #[.slice vo vn vk] 29)).heap.size := Nat.le_trans HN.out.tk.size b9.size
      obtain ⟨cv2, wa9, hra, hown9, hgr9, hnw9⟩ := run_append_at (P := Tryz.prog) (w8.alloc (.cells #[.slice vo vn vk] 29)) 22 22 W0.heap.size 29 iT _ 1 24 (by kernel_rfl) hiT hz1 hz2 hz3 rfl (by decide) cv us.length us hro9 ⟨w8.heap.size, 0, none⟩ 1 1 [.slice vo vn vk] rfl (one_new_at rfl _ _) (by simp [Value.oneCell']) (by have : maxLen = 9223372036854775807 := rfl; omega) (by omega) hs09
      clear hiT hz1 hz2 hz3
      obtain ⟨gv, ck, rfl⟩ : ∃ g cap, cv2 = .slice (some ⟨g, 0, none⟩) (us.length + 1) cap := own_succ hown9
      have hcr : ∀ k, cv.ownBlock = some k → W0.heap.size ≤ k := fun k hk => (HN.out.code.lt k hk).1
      have hblk9 : wa9.heap[kb]? = wr.heap[kb]? := (hgr9.block kb (Nat.lt_of_lt_of_le hkr b9.size) (fun e => by have := hcr kb e.symm; have := HN.out.kl; omega)).trans (b9.block kb hkr)
      have s10 : wa9.cell? ⟨kb, 0, none⟩ = some cv := (World.cell?_of_block (w := wr) (a := ⟨kb, 0, none⟩) hblk9).trans c0
      have f10 : wa9.frozen? ⟨kb, 0, none⟩ = false := (World.frozen?_of_block (w := wr) (a := ⟨kb, 0, none⟩) hblk9).trans (HN.out.blk.free 0)
      have HN9 := HN.out.more HCY.out b8 hown8 hgr9 hown9
      refine step_append_eq rfl (.tmp 35) (.tmp 38) 22 rfl cv (.slice (some ⟨w8.heap.size, 0, none⟩) 1 1) rfl rfl (.slice (some ⟨gv, 0, none⟩) (us.length + 1) ck) wa9 hra ?_
      refine hK.out _ _ s10 (fun hHeld => ?_)
      clear hK K
      simp only [Act.put, List.setIfInBounds_toArray, List.set_cons_zero, List.set_cons_succ]
      refine wpAnyH_take (i := 9) (v := ?_) rfl (by decide +kernel) (by decide +kernel) (by decide +kernel) (fun _ _ _ h => h) (Or.inl ⟨by rfl, ?_⟩) (by assumption) ?_
      rotate_left
      · intro W hSw
        try dsimp only at hSw
        go_simp
        try with_reducible rfl
      simp only [Act.put, List.setIfInBounds_toArray, List.set_cons_zero, List.set_cons_succ]
      refine wpAnyH_take (i := 10) (v := ?_) rfl (by decide +kernel) (by decide +kernel) (by decide +kernel) (fun _ _ _ h => h) (Or.inl ⟨by rfl, ?_⟩) (by assumption) ?_
      rotate_left
      · intro W hSw
        try dsimp only at hSw
        go_simp
        try with_reducible rfl
      simp only [Act.put, List.setIfInBounds_toArray, List.set_cons_zero, List.set_cons_succ]
      refine wpAnyH_done (by decide +kernel) ?_ _
      show Oper.wp _ _ _ _ _ _
      go_simp
      clear hra hown9 hgr9 hnw9 s8 s9 s10 f10 hHeld b8 b9 hown8 hro9 hs09 hblk9 c0 hcd HCl hcr
      generalize wa9.setCell ⟨kb, 0, none⟩ (.slice (some ⟨gv, 0, none⟩) (us.length + 1) ck) = W9 at HN9 ⊢
      have HM : Hid (N1 W0 W9 kb p sv (.slice (some ⟨gv, 0, none⟩) (us.length + 1) ck) rv (us ++ [.slice vo vn vk]) us.length) := HN9
      have c3 := HN9.blk.cs.2.2.2.1
      have hkr9 : kb < W9.heap.size := Nat.lt_of_lt_of_le HN9.kl HN9.tk.size
      clear HN9 HN bQ
      have HRn : Hid (∀ W, Calls Tryz.prog 37 #[] W fun e w' => e = .returned (.agg #[.int .i64 0, .int .i64 0, .int .i64 0, .int .i64 0, .int .i64 0, .int .i64 0, .int .i64 0, .bool false]) ∧ Below W.heap.size W w') := fun W => new_any W
      have bQ : Below W9.heap.size W9 W9.drew := (Below.refl _ _).drew
      go_upto_region 9 with fail
      refine wp_region_popped (fun W => W.cell? ⟨kb, 3, none⟩ = some rv) (by kernel_rfl) rfl (by decide +kernel) c3 (fun hHeld => ?_)
      simp only [List.pop_toArray, List.dropLast_cons_cons, List.dropLast_singleton, List.size_toArray, List.length_cons, List.length_nil, Nat.reduceAdd, Array.replicate_succ, Array.replicate_zero, List.push_toArray, List.nil_append, List.cons_append]
      refine wpAnyH_take (i := 0) (v := ?_) rfl (by decide +kernel) (by decide +kernel) (by decide +kernel) (fun _ _ _ h => h) (Or.inl ⟨by rfl, ?_⟩) (by assumption) ?_
      rotate_left
      · intro W hSw
        try dsimp only at hSw
        go_simp
        try with_reducible rfl
      simp only [Act.put, List.setIfInBounds_toArray, List.set_cons_zero]
      refine wpAnyH_take (i := 1) (v := ?_) rfl (by decide +kernel) (by decide +kernel) (by decide +kernel) (fun _ _ _ h => h) (Or.inl ⟨by rfl, ?_⟩) (by assumption) ?_
      rotate_left
      · intro W hSw
        try dsimp only at hSw
        go_simp
        try with_reducible rfl
      simp only [Act.put, List.setIfInBounds_toArray, List.set_cons_zero, List.set_cons_succ]
      refine wpAnyH_take (i := 2) (v := ?_) rfl (by decide +kernel) (by decide +kernel) (by decide +kernel) (fun _ _ _ h => h) (Or.inl ⟨by rfl, ?_⟩) (by assumption) ?_
      rotate_left
      · intro W hSw
        try dsimp only at hSw
        go_simp
        try with_reducible rfl
      simp only [Act.put, List.setIfInBounds_toArray, List.set_cons_zero, List.set_cons_succ]
      refine wpAnyH_take (i := 3) (v := ?_) rfl (by decide +kernel) (by decide +kernel) (by decide +kernel) (fun _ _ _ h => h) (Or.inl ⟨by rfl, ?_⟩) (by assumption) ?_
      rotate_left
      · intro W hSw
        try dsimp only at hSw
        go_simp
        try with_reducible rfl
      simp only [Act.put, List.setIfInBounds_toArray, List.set_cons_zero, List.set_cons_succ]
      refine wpAnyH_take (i := 4) (v := ?_) rfl (by decide +kernel) (by decide +kernel) (by decide +kernel) (fun _ _ _ h => h) (Or.inl ⟨by rfl, ?_⟩) (by assumption) ?_
      rotate_left
      · intro W hSw
        try dsimp only at hSw
        go_simp
        try with_reducible rfl
      simp only [Act.put, List.setIfInBounds_toArray, List.set_cons_zero, List.set_cons_succ]
      refine wpAnyH_ready (rs := [5]) (by decide +kernel) (by simp) ?_
      refine AllReadyH.cons (o := _) rfl (fun K hK => ?_) AllReadyH.nil
      go_simp
      go_at_call 37
      refine (HRn.out _).mono ?_
      rintro e w8 ⟨rfl, b8⟩
      replace b8 := bQ.trans (b8.mono (Nat.le_refl _))
      have s8 : w8.cell? ⟨kb, 3, none⟩ = some rv := (b8.cell (p := ⟨kb, 3, none⟩) hkr9).trans c3
      go_wp2_with fail
      refine hK.out _ _ s8 (fun hHeld => ?_)
      clear hK K
      simp only [List.setIfInBounds_toArray, List.set_cons_zero, List.set_cons_succ]
      refine wpAnyH_ready (rs := [6]) (by decide +kernel) (by simp) ?_
      refine AllReadyH.cons (o := _) rfl (fun K hK => ?_) AllReadyH.nil
      go_simp
      have b9 : Below W9.heap.size W9 (w8.alloc (.cells #[.int .i64 0, .int .i64 0, .int .i64 0, .int .i64 0, .int .i64 0, .int .i64 0, .int .i64 0, .bool false] 73)) := b8.alloc b8.size _
      have s9 : (w8.alloc (.cells #[.int .i64 0, .int .i64 0, .int .i64 0, .int .i64 0, .int .i64 0, .int .i64 0, .int .i64 0, .bool false] 73)).cell? ⟨kb, 3, none⟩ = some rv := (b9.cell (p := ⟨kb, 3, none⟩) hkr9).trans c3
      refine hK.out _ _ s9 (fun hHeld => ?_)
      clear hK K
      simp only [List.setIfInBounds_toArray, List.set_cons_zero, List.set_cons_succ]
      refine wpAnyH_ready (rs := [7]) (by decide +kernel) (by simp) ?_
      refine AllReadyH.cons (o := _) rfl (fun K hK => ?_) AllReadyH.nil
      obtain ⟨iT, hiT, hz1, hz2, hz3⟩ := info3 infoSt
      have hro9 := own_below HM.out.rooms b9 (Nat.le_refl _)
      have hs09 : W0.heap.size ≤ (w8.alloc (.cells #[.int .i64 0, .int .i64 0, .int .i64 0, .int .i64 0, .int .i64 0, .int .i64 0, .int .i64 0, .bool false] 73)).heap.size := Nat.le_trans HM.out.tk.size b9.size
      obtain ⟨rv2, wa9, hra, hown9, hgr9, hnw9⟩ := run_append_at (P := Tryz.prog) (w8.alloc (.cells #[.int .i64 0, .int .i64 0, .int .i64 0, .int .i64 0, .int .i64 0, .int .i64 0, .int .i64 0, .bool false] 73)) 63 63 W0.heap.size 73 iT _ 8 64 (by kernel_rfl) hiT hz1 hz2 hz3 rfl (by decide) rv us.length (stCells (List.replicate us.length stNew)) hro9 ⟨w8.heap.size, 0, none⟩ 1 1 [.int .i64 0, .int .i64 0, .int .i64 0, .int .i64 0, .int .i64 0, .int .i64 0, .int .i64 0, .bool false] rfl (st_new rfl stNew _) (st_one stNew) (by have : maxLen = 9223372036854775807 := rfl; omega) (by omega) hs09
      clear hiT hz1 hz2 hz3
      obtain ⟨rg, rk, rfl⟩ : ∃ g cap, rv2 = .slice (some ⟨g, 0, none⟩) (us.length + 1) cap := own_succ hown9
      have hcr : ∀ k, rv.ownBlock = some k → W0.heap.size ≤ k := fun k hk => (HM.out.rooms.lt k hk).1
      have hblk9 : wa9.heap[kb]? = W9.heap[kb]? := (hgr9.block kb (Nat.lt_of_lt_of_le hkr9 b9.size) (fun e => by have := hcr kb e.symm; have := HM.out.kl; omega)).trans (b9.block kb hkr9)
      have s10 : wa9.cell? ⟨kb, 3, none⟩ = some rv := (World.cell?_of_block (w := W9) (a := ⟨kb, 3, none⟩) hblk9).trans c3
      have f10 : wa9.frozen? ⟨kb, 3, none⟩ = false := (World.frozen?_of_block (w := W9) (a := ⟨kb, 3, none⟩) hblk9).trans (HM.out.blk.free 3)
      have HR9 : Hid _ := HM.out.room b8 hgr9 hown9
      refine step_append_eq rfl (.tmp 46) (.tmp 48) 63 rfl rv (.slice (some ⟨w8.heap.size, 0, none⟩) 1 1) rfl rfl (.slice (some ⟨rg, 0, none⟩) (us.length + 1) rk) wa9 hra ?_
      refine hK.out _ _ s10 (fun hHeld => ?_)
      clear hK K
      simp only [Act.put, List.setIfInBounds_toArray, List.set_cons_zero, List.set_cons_succ]
      refine wpAnyH_take (i := 8) (v := ?_) rfl (by decide +kernel) (by decide +kernel) (by decide +kernel) (fun _ _ _ h => h) (Or.inl ⟨by rfl, ?_⟩) (by assumption) ?_
      rotate_left
      · intro W hSw
        try dsimp only at hSw
        go_simp
        try with_reducible rfl
      simp only [Act.put, List.setIfInBounds_toArray, List.set_cons_zero, List.set_cons_succ]
      refine wpAnyH_take (i := 9) (v := ?_) rfl (by decide +kernel) (by decide +kernel) (by decide +kernel) (fun _ _ _ h => h) (Or.inl ⟨by rfl, ?_⟩) (by assumption) ?_
      rotate_left
      · intro W hSw
        try dsimp only at hSw
        go_simp
        try with_reducible rfl
      simp only [Act.put, List.setIfInBounds_toArray, List.set_cons_zero, List.set_cons_succ]
      refine wpAnyH_done (by decide +kernel) ?_ _
      show Oper.wp _ _ _ _ _ _
      go_simp
      clear hra hown9 hgr9 hnw9 s8 s9 hHeld b8 b9 hro9 hs09 hblk9 HRn
      go_wp2
      go_roundw
      case rel => exact ⟨us ++ [.slice vo vn vk], _, _, by rw [List.length_append]; go_num, by rw [List.length_append]; exact HR9.out⟩
      case measure => simp [intOf]; omega
    · have hki : decide ((us.length : Int) < (p.code.length : Int)) = false := decide_eq_false (by omega)
      have hkn : decide (us.length < p.code.length) = false := decide_eq_false (by omega)
      have hul : Hid (us.length = p.code.length) := by show _ = _; omega
      have HN : Hid (N1 W0 wr kb p sv cv rv us us.length) := hn1
      have hbx := hn1.box hxc hkb0
      have k3 := hbx.c3
      have hkr : kb < wr.heap.size := Nat.lt_of_lt_of_le hn1.kl hn1.tk.size
      have hgb1 := hn1.blk
      clear hn1
      generalize wr = W1 at *
      go_upto_region 12 with fail
      go_loopw [56] (fun i wr => ∃ lv bs, i = .int .i64 (bs.length : Nat) ∧ N2 W1 wr kb p cv sv rv lv bs) (fun i _ => p.wires.length - (intOf i).toNat)
      case atStart => exact ⟨_, [], rfl, N2.first hkr hgb1⟩
      case round =>
        clear hgb1 k3
        obtain ⟨lv, bs, rfl, hn2⟩ := hrel
        have hlen2 := hn2.len
        by_cases hwl : bs.length < p.wires.length
        · have hwi : (bs.length : Int) < (p.wires.length : Int) := by omega
          have hbx2 := hn2.box hbx hkb0
          obtain ⟨wb, wo, x1, x2, x3, x4, rfl, hwlt, hy, d0, d1, d2, d3⟩ := HP.out.wires.at hwl
          replace d0 := (hbx2.below.cell (p := ⟨wb, _, none⟩) hwlt).trans d0
          replace d1 := (hbx2.below.cell (p := ⟨wb, _, none⟩) hwlt).trans d1
          replace d2 := (hbx2.below.cell (p := ⟨wb, _, none⟩) hwlt).trans d2
          replace d3 := (hbx2.below.cell (p := ⟨wb, _, none⟩) hwlt).trans d3
          have HY : Hid (p.wires[bs.length]? = some (x1, x2, x3, x4)) := hy
          have hw4 : wchk x1 x2 x3 x4 = 0 := (wschk_ok hwz).2 (x1, x2, x3, x4) (List.mem_of_getElem? hy)
          have hw12 : p.wires.length ≤ 12 := (wschk_ok hwz).1
          have HWn : Hid (∀ W, Calls Tryz.prog 38 #[.agg #[.int .i64 x1, .int .i64 x2, .int .i64 x3, .int .i64 x4]] W fun e w' => ∃ b, e = .returned (.tuple #[.pointer (some ⟨b, 0, none⟩), .nilIface]) ∧ LnC w' b x3 x4 0 (.slice none 0 0) ∧ W.heap.size ≤ b ∧ b < w'.heap.size ∧ Below W.heap.size W w') := fun W => wnew_ok x1 x2 x3 x4 W hw4
          have HM : Hid (N2 W1 wr kb p cv sv rv lv bs) := hn2
          have hkr2 : kb < wr.heap.size := Nat.lt_of_lt_of_le hn2.kl hn2.tk.size
          have c4 := hn2.blk.cs.2.2.2.2.1
          clear hn2 hy hw4 hbx2
          have bW : Below wr.heap.size wr (wr.alloc (.cells #[.int .i64 x1, .int .i64 x2, .int .i64 x3, .int .i64 x4] 89)) := (Below.refl _ _).alloc (Nat.le_refl _) _
          go_upto_region 17 with (go_at_call 38; refine (HWn.out _).mono ?_; rintro e w8 ⟨b, rfl, hlc, hb0, hb1, b8⟩)
          replace b8 := bW.trans (b8.mono (by simp))
          replace hb0 : wr.heap.size ≤ b := by simp at hb0; omega
          have s8 : w8.cell? ⟨kb, 4, none⟩ = some lv := (b8.cell (p := ⟨kb, 4, none⟩) hkr2).trans c4
          have b9 : Below wr.heap.size wr (w8.alloc (.cells #[glP b] 90)) := b8.alloc b8.size _
          obtain ⟨iT, hiT, hz1, hz2, hz3⟩ := info3 infoGL
          have hro9 := own_below HM.out.row b9 (Nat.le_refl _)
          have hs09 : W1.heap.size ≤ (w8.alloc (.cells #[glP b] 90)).heap.size := Nat.le_trans HM.out.tk.size b9.size
          obtain ⟨lv2, wa9, hra, hown9, hgr9, hnw9⟩ := run_append_at (P := Tryz.prog) (w8.alloc (.cells #[glP b] 90)) 83 83 W1.heap.size 90 iT _ 1 8 (by kernel_rfl) hiT hz1 hz2 hz3 rfl (by decide) lv bs.length (bs.map glP) hro9 ⟨w8.heap.size, 0, none⟩ 1 1 [glP b] rfl (one_new_at rfl _ _) (by simp [glP, Value.oneCell']) (by have : maxLen = 9223372036854775807 := rfl; omega) (by omega) hs09
          clear hiT hz1 hz2 hz3
          obtain ⟨lg, lk, rfl⟩ : ∃ g cap, lv2 = .slice (some ⟨g, 0, none⟩) (bs.length + 1) cap := own_succ hown9
          have hcr : ∀ k, lv.ownBlock = some k → W1.heap.size ≤ k := fun k hk => (HM.out.row.lt k hk).1
          have hblk9 : wa9.heap[kb]? = wr.heap[kb]? := (hgr9.block kb (Nat.lt_of_lt_of_le hkr2 b9.size) (fun e => by have := hcr kb e.symm; have := HM.out.kl; omega)).trans (b9.block kb hkr2)
          have s10 : wa9.cell? ⟨kb, 4, none⟩ = some lv := (World.cell?_of_block (w := wr) (a := ⟨kb, 4, none⟩) hblk9).trans c4
          have f10 : wa9.frozen? ⟨kb, 4, none⟩ = false := (World.frozen?_of_block (w := wr) (a := ⟨kb, 4, none⟩) hblk9).trans (HM.out.blk.free 4)
          have HR9 : Hid _ := HM.out.more HY.out b8 ⟨hb0, hb1⟩ hlc hgr9 hown9 (fun k hk => by
            rcases hnw9 k hk with h1 | h1
            · exact Or.inl h1
            · simp at h1; exact Or.inr h1)
          clear hown9 hgr9 hnw9 b9 hro9 hs09 hblk9 HWn d0 d1 d2 d3 c4 b8 bW hlc
          go_wp2_with (at_builtin; refine wpList_append_eq rfl _ _ 83 rfl lv (.slice (some ⟨w8.heap.size, 0, none⟩) 1 1) rfl rfl (.slice (some ⟨lg, 0, none⟩) (bs.length + 1) lk) wa9 hra ?_)
          go_roundw
          case rel => exact ⟨_, bs ++ [b], by rw [List.length_append]; go_num, HR9.out⟩
          case measure => simp [intOf]; omega
        · have hwi : decide ((bs.length : Int) < (p.wires.length : Int)) = false := decide_eq_false (by omega)
          have hwn : decide (bs.length < p.wires.length) = false := decide_eq_false (by omega)
          have HD : Hid (∃ a : GW, GK wr w.heap.size p (newK p) kb a) := N2.done hkb0 HSP.out.1 HSP.out.2 HN.out hn2 hp hul.out (by omega)
          have HB : Hid (Below w.heap.size w wr) := (hn2.box hbx hkb0).below
          clear hn2
          go_wp2
          go_ret2
          obtain ⟨a, ha⟩ := HD.out
          exact ⟨kb, a, rfl, ha, HB.out⟩
end Go.Proofs.YtajfgmlockjmhaiGreatDoor
