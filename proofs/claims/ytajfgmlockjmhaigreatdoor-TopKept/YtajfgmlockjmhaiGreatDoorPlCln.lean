/-
  Package plan: Clone.
-/
import Derived.Test.YtajfgmlockjmhaiGreatDoorJt3
import Derived.Test.YtajfgmlockjmhaiGreatDoorJt1
import Derived.Test.YtajfgmlockjmhaiGreatDoorJt2
import Derived.Deep.CutRange
import Derived.Deep.RegionWith
import Derived.BigQuiet
import Derived.RangeFuncNested
namespace Go.Proofs.YtajfgmlockjmhaiGreatDoor
open Go.RowKit

set_option maxRecDepth 100000 in
set_option maxHeartbeats 16000000 in
theorem plclone_any (p : PD) (vc vs vw : Value) (w : World) (hP : Pln w vc vs vw p) (hp : plchk p = 0) :
    Calls Tryz.prog 48 #[plV vc p.ticks vs vw] w fun e w' => ∃ ic is iw, e = .returned (plV ic p.ticks is iw) ∧ (∃ us, PlO w' w.heap.size ic is iw p us) ∧ Below w.heap.size w w' := by
  obtain ⟨ca, cc, rfl⟩ := hP.code.form
  obtain ⟨sa, sc, rfl⟩ := hP.spans.form
  obtain ⟨wa, wc', rfl⟩ := hP.wires.form
  have hx0 := Bx.first w (.slice ca p.code.length cc) p.ticks (.slice sa p.spans.length sc) (.slice wa p.wires.length wc')
  have hA0 : Below (w.heap.size + 1) (w.alloc (.cells #[.slice ca p.code.length cc, .int .i64 p.ticks, .slice sa p.spans.length sc, .slice wa p.wires.length wc'] 26)) ((w.alloc (.cells #[.slice ca p.code.length cc, .int .i64 p.ticks, .slice sa p.spans.length sc, .slice wa p.wires.length wc'] 26)).alloc (.cells #[.slice none 0 0, .int .i64 0, .slice none 0 0, .slice none 0 0] 26)) := (Below.refl _ _).alloc (by simp) _
  generalize hWA : (w.alloc (.cells #[.slice ca p.code.length cc, .int .i64 p.ticks, .slice sa p.spans.length sc, .slice wa p.wires.length wc'] 26)).alloc (.cells #[.slice none 0 0, .int .i64 0, .slice none 0 0, .slice none 0 0] 26) = WA at hA0
  have hx1 : Bx w WA (.slice ca p.code.length cc) p.ticks (.slice sa p.spans.length sc) (.slice wa p.wires.length wc') := hA0
  have hsA : WA.heap.size = w.heap.size + 2 := by rw [← hWA]; simp
  have hZ : WA.heap[w.heap.size + 1]? = some (.cells #[.slice none 0 0, .int .i64 0, .slice none 0 0, .slice none 0 0] 26 (0, 0)) := by
    have h := World.alloc_heap_new (w.alloc (.cells #[.slice ca p.code.length cc, .int .i64 p.ticks, .slice sa p.spans.length sc, .slice wa p.wires.length wc'] 26)) (.cells #[.slice none 0 0, .int .i64 0, .slice none 0 0, .slice none 0 0] 26)
    rw [hWA, World.size_alloc] at h
    exact h
  have HZ : Hid (WA.heap[w.heap.size + 1]? = some (.cells #[.slice none 0 0, .int .i64 0, .slice none 0 0, .slice none 0 0] 26 (0, 0))) := hZ
  clear hZ
  obtain ⟨hc5, hc0, hfz, hwz, _, _, hcz, _⟩ := plchk_zero hp
  have hsl : p.spans.length ≤ 12 := (fchk_zero hfz).2.2.1
  have hwl : p.wires.length ≤ 12 := (wschk_ok hwz).1
  have HP : Hid (Pln w (.slice ca p.code.length cc) (.slice sa p.spans.length sc) (.slice wa p.wires.length wc') p) := hP
  have HCZ : Hid (∀ c ∈ p.code, (chk c).2 = 0) := codesE_zero hcz
  unfold plV
  have k0 := hx1.c0
  have k1 := hx1.c1
  have k2 := hx1.c2
  have k3 := hx1.c3
  clear hP hx0 hA0 hfz hwz hcz hp
  go_enter Tryz.func48, Tryz.ntmps48
  go_upto_region 1 with fail
  generalize WA = w3 at *
  have hx3 := hx1
  have hs3 : w.heap.size + 2 ≤ w3.heap.size := by omega
  clear hWA hx1 k0 k1 k2 k3
  go_cut [3] from 6 to 15 (fun s9 wx => ∃ kb sao sn scap wao wn wcap, s9 = .pointer (some ⟨kb, 0, none⟩) ∧ Below w3.heap.size w3 wx ∧ w3.heap.size ≤ kb ∧ kb < wx.heap.size ∧ wx.heap[kb]? = some (.cells #[.slice none 0 0, .int .i64 p.ticks, .slice sao sn scap, .slice wao wn wcap] 26 (0, 0)) ∧ wx.ownsRow w3.heap.size 82 3 (.slice sao sn scap) p.spans.length (spCells p.spans) ∧ wx.ownsRow w3.heap.size 89 4 (.slice wao wn wcap) p.wires.length (wrCells p.wires))
  case first =>
    have HCs : Hid (∀ W, Below w3.heap.size w3 W → Calls Tryz.prog 35 #[.slice sa p.spans.length sc] W fun e w' => ∃ ao n cap, e = .returned (.slice ao n cap) ∧ w'.ownsRow W.heap.size 82 3 (.slice ao n cap) p.spans.length (spCells p.spans) ∧ Below W.heap.size W w') := fun W hb => by
      refine (clone_sps p.spans _ W (HP.out.spans.all (hx3.step hb).below) (by omega)).mono ?_
      rintro e w' ⟨v, rfl, h1, h2⟩
      obtain ⟨ao, n, cap, rfl⟩ := own_form h1
      exact ⟨ao, n, cap, rfl, h1, h2⟩
    have HCw : Hid (∀ W, Below w3.heap.size w3 W → Calls Tryz.prog 86 #[.slice wa p.wires.length wc'] W fun e w' => ∃ ao n cap, e = .returned (.slice ao n cap) ∧ w'.ownsRow W.heap.size 89 4 (.slice ao n cap) p.wires.length (wrCells p.wires) ∧ Below W.heap.size W w') := fun W hb => by
      refine (clone_wrs p.wires _ W (HP.out.wires.all (hx3.step hb).below) (by omega)).mono ?_
      rintro e w' ⟨v, rfl, h1, h2⟩
      obtain ⟨ao, n, cap, rfl⟩ := own_form h1
      exact ⟨ao, n, cap, rfl, h1, h2⟩
    have HQ : Hid (∀ W, Below w3.heap.size w3 W → W.cell? ⟨w.heap.size, 1, none⟩ = some (.int .i64 p.ticks) ∧ W.cell? ⟨w.heap.size, 2, none⟩ = some (.slice sa p.spans.length sc) ∧ W.cell? ⟨w.heap.size, 3, none⟩ = some (.slice wa p.wires.length wc')) := fun W hb => ⟨(hx3.step hb).c1, (hx3.step hb).c2, (hx3.step hb).c3⟩
    have bcur : Below w3.heap.size w3 w3.drew := (Below.refl _ _).drew
    refine wp_region_popped (fun W => W.cell? ⟨w.heap.size, 1, none⟩ = some (.int .i64 p.ticks) ∧ W.cell? ⟨w.heap.size, 2, none⟩ = some (.slice sa p.spans.length sc) ∧ W.cell? ⟨w.heap.size, 3, none⟩ = some (.slice wa p.wires.length wc')) (by kernel_rfl) rfl (by decide +kernel) (HQ.out _ bcur) (fun hHeld => ?_)
    simp only [List.pop_toArray, List.dropLast_cons_cons, List.dropLast_singleton, List.size_toArray, List.length_cons, List.length_nil, Nat.reduceAdd, Array.replicate_succ, Array.replicate_zero, List.push_toArray, List.nil_append, List.cons_append]
    refine wpAnyH_take (i := 0) (v := ?_) rfl (by decide +kernel) (by decide +kernel) (by decide +kernel) (fun _ _ _ h => h) (Or.inl ⟨by rfl, ?_⟩) (by assumption) ?_
    rotate_left
    · intro W hSw
      try dsimp only at hSw
      obtain ⟨hS1, hS2, hS3⟩ := hSw
      go_simp
      try with_reducible rfl
    simp only [Act.put, List.setIfInBounds_toArray, List.set_cons_zero]
    refine wpAnyH_take (i := 1) (v := ?_) rfl (by decide +kernel) (by decide +kernel) (by decide +kernel) (fun _ _ _ h => h) (Or.inl ⟨by rfl, ?_⟩) (by assumption) ?_
    rotate_left
    · intro W hSw
      try dsimp only at hSw
      obtain ⟨hS1, hS2, hS3⟩ := hSw
      go_simp
      try with_reducible rfl
    simp only [Act.put, List.setIfInBounds_toArray, List.set_cons_zero, List.set_cons_succ]
    refine wpAnyH_take (i := 2) (v := ?_) rfl (by decide +kernel) (by decide +kernel) (by decide +kernel) (fun _ _ _ h => h) (Or.inl ⟨by rfl, ?_⟩) (by assumption) ?_
    rotate_left
    · intro W hSw
      try dsimp only at hSw
      obtain ⟨hS1, hS2, hS3⟩ := hSw
      go_simp
      try with_reducible rfl
    simp only [Act.put, List.setIfInBounds_toArray, List.set_cons_zero, List.set_cons_succ]
    refine wpAnyH_take (i := 3) (v := ?_) rfl (by decide +kernel) (by decide +kernel) (by decide +kernel) (fun _ _ _ h => h) (Or.inl ⟨by rfl, ?_⟩) (by assumption) ?_
    rotate_left
    · intro W hSw
      try dsimp only at hSw
      obtain ⟨hS1, hS2, hS3⟩ := hSw
      go_simp
      try with_reducible rfl
    simp only [Act.put, List.setIfInBounds_toArray, List.set_cons_zero, List.set_cons_succ]
    refine wpAnyH_take (i := 5) (v := ?_) rfl (by decide +kernel) (by decide +kernel) (by decide +kernel) (fun _ _ _ h => h) (Or.inl ⟨by rfl, ?_⟩) (by assumption) ?_
    rotate_left
    · intro W hSw
      try dsimp only at hSw
      obtain ⟨hS1, hS2, hS3⟩ := hSw
      go_simp
      try with_reducible rfl
    simp only [Act.put, List.setIfInBounds_toArray, List.set_cons_zero, List.set_cons_succ]
    refine wpAnyH_take (i := 6) (v := ?_) rfl (by decide +kernel) (by decide +kernel) (by decide +kernel) (fun _ _ _ h => h) (Or.inl ⟨by rfl, ?_⟩) (by assumption) ?_
    rotate_left
    · intro W hSw
      try dsimp only at hSw
      obtain ⟨hS1, hS2, hS3⟩ := hSw
      go_simp
      try with_reducible rfl
    simp only [Act.put, List.setIfInBounds_toArray, List.set_cons_zero, List.set_cons_succ]
    generalize w3.drew = wD at bcur hHeld ⊢
    refine wpAnyH_ready (rs := [4, 9]) (by decide +kernel) (by simp) ?_
    refine AllReadyH.cons (o := _) rfl (fun K hK => ?_) (AllReadyH.cons (o := _) rfl (fun K hK => ?_) AllReadyH.nil)
    · go_simp
      go_at_call 35
      refine (HCs.out _ bcur).mono ?_
      rintro e wS ⟨sao, sn, scap, rfl, hs, bN⟩
      replace hs := own_base hs bcur.size
      replace bcur := bcur.trans (bN.mono bcur.size)
      clear bN
      go_wp2_with fail
      refine hK.out _ _ (HQ.out _ bcur) (fun hHeld => ?_)
      clear hK K
      simp only [List.setIfInBounds_toArray, List.set_cons_zero, List.set_cons_succ]
      refine wpAnyH_ready (rs := [7, 9]) (by decide +kernel) (by simp) ?_
      refine AllReadyH.cons (o := _) rfl (fun K hK => ?_) (AllReadyH.cons (o := _) rfl (fun K hK => ?_) AllReadyH.nil)
      · go_simp
        go_at_call 86
        refine (HCw.out _ bcur).mono ?_
        rintro e wWS ⟨wao, wn, wcap, rfl, hw, bN⟩
        replace hw := own_base hw bcur.size
        replace hs := own_below hs bN (Nat.le_refl _)
        replace bcur := bcur.trans (bN.mono bcur.size)
        clear bN
        go_wp2_with fail
        refine hK.out _ _ (HQ.out _ bcur) (fun hHeld => ?_)
        clear hK K
        simp only [List.setIfInBounds_toArray, List.set_cons_zero, List.set_cons_succ]
        refine wpAnyH_take (i := 8) (v := ?_) rfl (by decide +kernel) (by decide +kernel) (by decide +kernel) (fun _ _ _ h => h) (Or.inl ⟨by rfl, ?_⟩) (by assumption) ?_
        rotate_left
        · intro W hSw
          try dsimp only at hSw
          obtain ⟨hS1, hS2, hS3⟩ := hSw
          go_simp
          try with_reducible rfl
        simp only [Act.put, List.setIfInBounds_toArray, List.set_cons_zero, List.set_cons_succ]
        refine wpAnyH_ready (rs := [9]) (by decide +kernel) (by simp) ?_
        refine AllReadyH.cons (o := _) rfl (fun K hK => ?_) AllReadyH.nil
        go_simp
        have bN : Below (wWS).heap.size (wWS) ((wWS).alloc (.cells #[.slice none 0 0, .int .i64 0, .slice none 0 0, .slice none 0 0] 26)) := (Below.refl _ _).alloc (Nat.le_refl _) _
        have hblk : ((wWS).alloc (.cells #[.slice none 0 0, .int .i64 0, .slice none 0 0, .slice none 0 0] 26)).heap[(wWS).heap.size]? = some (.cells #[.slice none 0 0, .int .i64 0, .slice none 0 0, .slice none 0 0] 26 (0, 0)) := World.alloc_heap_new _ _
        have hkb : (wWS).heap.size < ((wWS).alloc (.cells #[.slice none 0 0, .int .i64 0, .slice none 0 0, .slice none 0 0] 26)).heap.size := by simp
        have hk3 : w3.heap.size ≤ (wWS).heap.size := bcur.size
        replace hs := own_below hs bN (Nat.le_refl _)
        replace hw := own_below hw bN (Nat.le_refl _)
        replace bcur := bcur.trans (bN.mono bcur.size)
        clear bN
        refine hK.out _ _ (HQ.out _ bcur) (fun hHeld => ?_)
        clear hK K
        simp only [List.setIfInBounds_toArray, List.set_cons_zero, List.set_cons_succ]
        generalize (wWS).alloc (.cells #[.slice none 0 0, .int .i64 0, .slice none 0 0, .slice none 0 0] 26) = wASW at hblk hkb bcur hs hw hHeld ⊢
        generalize (wWS).heap.size = kb at hblk hkb hk3 ⊢
        obtain ⟨z0, z1, z2, z3, y0, y1, y2, y3⟩ := blk4_cs hblk
        refine wpAnyH_done (by decide +kernel) ?_ _
        show Oper.wp _ _ _ _ _ _
        go_simp
        go_wp2_with fail
        go_meet
        case rel =>
          have hs2 : ∀ g, (Value.slice sao sn scap).ownBlock = some g → g ≠ kb := own_not hs hblk (by decide)
          have hw2 : ∀ g, (Value.slice wao wn wcap).ownBlock = some g → g ≠ kb := own_not hw hblk (by decide)
          have ht := set4_touch wASW kb (.slice none 0 0) (.int .i64 p.ticks) (.slice sao sn scap) (.slice wao wn wcap)
          exact ⟨kb, sao, sn, scap, wao, wn, wcap, rfl, set4_below bcur kb hk3 _ _ _ _, hk3, by simpa using hkb, set4_blk hblk, own_block hs (fun g hg => ht.block g (hs.lt g hg).2 (by simpa using hs2 g hg)), own_block hw (fun g hg => ht.block g (hw.lt g hg).2 (by simpa using hw2 g hg))⟩
      · go_simp
        have bN : Below (wS).heap.size (wS) ((wS).alloc (.cells #[.slice none 0 0, .int .i64 0, .slice none 0 0, .slice none 0 0] 26)) := (Below.refl _ _).alloc (Nat.le_refl _) _
        have hblk : ((wS).alloc (.cells #[.slice none 0 0, .int .i64 0, .slice none 0 0, .slice none 0 0] 26)).heap[(wS).heap.size]? = some (.cells #[.slice none 0 0, .int .i64 0, .slice none 0 0, .slice none 0 0] 26 (0, 0)) := World.alloc_heap_new _ _
        have hkb : (wS).heap.size < ((wS).alloc (.cells #[.slice none 0 0, .int .i64 0, .slice none 0 0, .slice none 0 0] 26)).heap.size := by simp
        have hk3 : w3.heap.size ≤ (wS).heap.size := bcur.size
        replace hs := own_below hs bN (Nat.le_refl _)
        replace bcur := bcur.trans (bN.mono bcur.size)
        clear bN
        refine hK.out _ _ (HQ.out _ bcur) (fun hHeld => ?_)
        clear hK K
        simp only [List.setIfInBounds_toArray, List.set_cons_zero, List.set_cons_succ]
        generalize (wS).alloc (.cells #[.slice none 0 0, .int .i64 0, .slice none 0 0, .slice none 0 0] 26) = wAS at hblk hkb bcur hs hHeld ⊢
        generalize (wS).heap.size = kb at hblk hkb hk3 ⊢
        refine wpAnyH_ready (rs := [7]) (by decide +kernel) (by simp) ?_
        refine AllReadyH.cons (o := _) rfl (fun K hK => ?_) AllReadyH.nil
        go_simp
        go_at_call 86
        refine (HCw.out _ bcur).mono ?_
        rintro e wWSA ⟨wao, wn, wcap, rfl, hw, bN⟩
        replace hw := own_base hw bcur.size
        replace hs := own_below hs bN (Nat.le_refl _)
        replace hblk := (bN.block kb hkb).trans hblk
        replace hkb := Nat.lt_of_lt_of_le hkb bN.size
        replace bcur := bcur.trans (bN.mono bcur.size)
        clear bN
        go_wp2_with fail
        refine hK.out _ _ (HQ.out _ bcur) (fun hHeld => ?_)
        clear hK K
        simp only [List.setIfInBounds_toArray, List.set_cons_zero, List.set_cons_succ]
        refine wpAnyH_take (i := 8) (v := ?_) rfl (by decide +kernel) (by decide +kernel) (by decide +kernel) (fun _ _ _ h => h) (Or.inl ⟨by rfl, ?_⟩) (by assumption) ?_
        rotate_left
        · intro W hSw
          try dsimp only at hSw
          obtain ⟨hS1, hS2, hS3⟩ := hSw
          go_simp
          try with_reducible rfl
        simp only [Act.put, List.setIfInBounds_toArray, List.set_cons_zero, List.set_cons_succ]
        obtain ⟨z0, z1, z2, z3, y0, y1, y2, y3⟩ := blk4_cs hblk
        refine wpAnyH_done (by decide +kernel) ?_ _
        show Oper.wp _ _ _ _ _ _
        go_simp
        go_wp2_with fail
        go_meet
        case rel =>
          have hs2 : ∀ g, (Value.slice sao sn scap).ownBlock = some g → g ≠ kb := own_not hs hblk (by decide)
          have hw2 : ∀ g, (Value.slice wao wn wcap).ownBlock = some g → g ≠ kb := own_not hw hblk (by decide)
          have ht := set4_touch wWSA kb (.slice none 0 0) (.int .i64 p.ticks) (.slice sao sn scap) (.slice wao wn wcap)
          exact ⟨kb, sao, sn, scap, wao, wn, wcap, rfl, set4_below bcur kb hk3 _ _ _ _, hk3, by simpa using hkb, set4_blk hblk, own_block hs (fun g hg => ht.block g (hs.lt g hg).2 (by simpa using hs2 g hg)), own_block hw (fun g hg => ht.block g (hw.lt g hg).2 (by simpa using hw2 g hg))⟩
    · go_simp
      have bN : Below (wD).heap.size (wD) ((wD).alloc (.cells #[.slice none 0 0, .int .i64 0, .slice none 0 0, .slice none 0 0] 26)) := (Below.refl _ _).alloc (Nat.le_refl _) _
      have hblk : ((wD).alloc (.cells #[.slice none 0 0, .int .i64 0, .slice none 0 0, .slice none 0 0] 26)).heap[(wD).heap.size]? = some (.cells #[.slice none 0 0, .int .i64 0, .slice none 0 0, .slice none 0 0] 26 (0, 0)) := World.alloc_heap_new _ _
      have hkb : (wD).heap.size < ((wD).alloc (.cells #[.slice none 0 0, .int .i64 0, .slice none 0 0, .slice none 0 0] 26)).heap.size := by simp
      have hk3 : w3.heap.size ≤ (wD).heap.size := bcur.size
      replace bcur := bcur.trans (bN.mono bcur.size)
      clear bN
      refine hK.out _ _ (HQ.out _ bcur) (fun hHeld => ?_)
      clear hK K
      simp only [List.setIfInBounds_toArray, List.set_cons_zero, List.set_cons_succ]
      generalize (wD).alloc (.cells #[.slice none 0 0, .int .i64 0, .slice none 0 0, .slice none 0 0] 26) = wA at hblk hkb bcur  hHeld ⊢
      generalize (wD).heap.size = kb at hblk hkb hk3 ⊢
      refine wpAnyH_ready (rs := [4]) (by decide +kernel) (by simp) ?_
      refine AllReadyH.cons (o := _) rfl (fun K hK => ?_) AllReadyH.nil
      go_simp
      go_at_call 35
      refine (HCs.out _ bcur).mono ?_
      rintro e wSA ⟨sao, sn, scap, rfl, hs, bN⟩
      replace hs := own_base hs bcur.size
      replace hblk := (bN.block kb hkb).trans hblk
      replace hkb := Nat.lt_of_lt_of_le hkb bN.size
      replace bcur := bcur.trans (bN.mono bcur.size)
      clear bN
      go_wp2_with fail
      refine hK.out _ _ (HQ.out _ bcur) (fun hHeld => ?_)
      clear hK K
      simp only [List.setIfInBounds_toArray, List.set_cons_zero, List.set_cons_succ]
      refine wpAnyH_ready (rs := [7]) (by decide +kernel) (by simp) ?_
      refine AllReadyH.cons (o := _) rfl (fun K hK => ?_) AllReadyH.nil
      go_simp
      go_at_call 86
      refine (HCw.out _ bcur).mono ?_
      rintro e wWAS ⟨wao, wn, wcap, rfl, hw, bN⟩
      replace hw := own_base hw bcur.size
      replace hblk := (bN.block kb hkb).trans hblk
      replace hkb := Nat.lt_of_lt_of_le hkb bN.size
      replace hs := own_below hs bN (Nat.le_refl _)
      replace bcur := bcur.trans (bN.mono bcur.size)
      clear bN
      go_wp2_with fail
      refine hK.out _ _ (HQ.out _ bcur) (fun hHeld => ?_)
      clear hK K
      simp only [List.setIfInBounds_toArray, List.set_cons_zero, List.set_cons_succ]
      refine wpAnyH_take (i := 8) (v := ?_) rfl (by decide +kernel) (by decide +kernel) (by decide +kernel) (fun _ _ _ h => h) (Or.inl ⟨by rfl, ?_⟩) (by assumption) ?_
      rotate_left
      · intro W hSw
        try dsimp only at hSw
        obtain ⟨hS1, hS2, hS3⟩ := hSw
        go_simp
        try with_reducible rfl
      simp only [Act.put, List.setIfInBounds_toArray, List.set_cons_zero, List.set_cons_succ]
      obtain ⟨z0, z1, z2, z3, y0, y1, y2, y3⟩ := blk4_cs hblk
      refine wpAnyH_done (by decide +kernel) ?_ _
      show Oper.wp _ _ _ _ _ _
      go_simp
      go_wp2_with fail
      go_meet
      case rel =>
        have hs2 : ∀ g, (Value.slice sao sn scap).ownBlock = some g → g ≠ kb := own_not hs hblk (by decide)
        have hw2 : ∀ g, (Value.slice wao wn wcap).ownBlock = some g → g ≠ kb := own_not hw hblk (by decide)
        have ht := set4_touch wWAS kb (.slice none 0 0) (.int .i64 p.ticks) (.slice sao sn scap) (.slice wao wn wcap)
        exact ⟨kb, sao, sn, scap, wao, wn, wcap, rfl, set4_below bcur kb hk3 _ _ _ _, hk3, by simpa using hkb, set4_blk hblk, own_block hs (fun g hg => ht.block g (hs.lt g hg).2 (by simpa using hs2 g hg)), own_block hw (fun g hg => ht.block g (hw.lt g hg).2 (by simpa using hw2 g hg))⟩
  case rest =>
  obtain ⟨kb, sao, sn, scap, wao, wn, wcap, rfl, hbx, hkb0, hkb1, hblk, hsr, hwr⟩ := hcut
  generalize wc = W0 at *
  have hx4 := hx3.step hbx
  have k0 := hx4.c0
  have hst : QP 0 W0 W0 p (fun _ => true) kb (.slice sao sn scap) (.slice wao wn wcap) (.slice none 0 0) [] :=
    ⟨KTouch.refl _ _, hkb1, by omega, hblk, World.ownsRow_nil _ _ _ _, fun i u c h => (by simp at h), fun u hu => (by cases hu), Nat.zero_le _⟩
  have HSR : Hid (W0.ownsRow w3.heap.size 82 3 (.slice sao sn scap) p.spans.length (spCells p.spans) ∧ ∀ g, (Value.slice sao sn scap).ownBlock = some g → g ≠ kb) := ⟨hsr, own_not hsr hblk (by decide)⟩
  have HWR : Hid (W0.ownsRow w3.heap.size 89 4 (.slice wao wn wcap) p.wires.length (wrCells p.wires) ∧ ∀ g, (Value.slice wao wn wcap).ownBlock = some g → g ≠ kb) := ⟨hwr, own_not hwr hblk (by decide)⟩
  have HBX : Hid (Below w3.heap.size w3 W0) := hbx
  have hsz0 : w3.heap.size ≤ W0.heap.size := hbx.size
  have hxs := hx3.size
  clear hsr hwr hblk hbx
  obtain ⟨jj, hj, hy0, hy1, hy2⟩ := info_parts infoOps
  go_upto_region 3 with fail
  go_loopw [18] (fun i wr => ∃ us vo vn vk, i = .int .i64 (us.length : Nat) ∧ QP 0 W0 wr p (fun _ => true) kb (.slice sao sn scap) (.slice wao wn wcap) (.slice vo vn vk) us) (fun i _ => p.code.length - (intOf i).toNat)
  case atStart => exact ⟨[], none, 0, 0, rfl, hst⟩
  case round =>
    clear hst k0
    obtain ⟨us, vo, vn, vk, rfl, hq⟩ := hrel
    have hlen := hq.len
    have htk := hq.tk
    have hszr := htk.size
    have hbw : Below w.heap.size w wr := hx4.below.trans (htk.below (fun m hm => by rw [List.mem_singleton] at hm; omega) (by omega))
    by_cases hkl : us.length < p.code.length
    · have hki : (us.length : Int) < (p.code.length : Int) := by omega
      obtain ⟨cb, co, ua, un, ug, c, rfl, hclt, hcy, hcd, rfl, hops⟩ := HP.out.code.at hkl
      replace hcd := (hbw.cell (p := ⟨cb, _, none⟩) hclt).trans hcd
      have HCY : Hid (p.code[us.length]? = some c) := hcy
      have hcl : c.length ≤ 20 := (chk_zero (HCZ.out c (List.mem_of_getElem? hcy))).2.1
      have HOP : Hid (∀ W, Below wr.heap.size wr W → Ops W (.slice ua c.length ug) c) := fun W hb => hops.all (hbw.trans (hb.mono hbw.size))
      have HQ : Hid (QP 0 W0 wr p (fun _ => true) kb (.slice sao sn scap) (.slice wao wn wcap) (.slice vo vn vk) us) := hq
      obtain ⟨c0, _, _, _, f0⟩ := hq.cs
      have hown0 := hq.own
      have hkr : kb < wr.heap.size := by omega
      clear hq hops hcy hbw htk
      have HCl : Hid (∀ W, Below wr.heap.size wr W → Calls Tryz.prog 36 #[.slice ua c.length ug] W fun e w' => ∃ ao n cap, e = .returned (.slice ao n cap) ∧ w'.ownsRow W.heap.size 28 3 (.slice ao n cap) c.length (spCells c) ∧ Below W.heap.size W w') := fun W hb => by
        refine (clone_ops c _ W (HOP.out W hb) (by omega)).mono ?_
        rintro e w' ⟨v, rfl, h1, h2⟩
        obtain ⟨ao, n, cap, rfl⟩ := own_form h1
        exact ⟨ao, n, cap, rfl, h1, h2⟩
      have bQ : Below wr.heap.size wr wr.drew := (Below.refl _ _).drew
      go_upto_region 5 with fail
      refine wp_region_popped (fun W => W.cell? ⟨kb, 0, none⟩ = some (.slice vo vn vk)) (by kernel_rfl) rfl (by decide +kernel) c0 (fun hHeld => ?_)
      simp only [List.pop_toArray, List.dropLast_cons_cons, List.dropLast_singleton, List.size_toArray, List.length_cons, List.length_nil, Nat.reduceAdd, Array.replicate_succ, Array.replicate_zero, List.push_toArray, List.nil_append, List.cons_append]
      refine wpAnyH_take (i := 0) (v := ?_) rfl (by decide +kernel) (by decide +kernel) (by decide +kernel) (fun _ _ _ h => h) (Or.inl ⟨by rfl, ?_⟩) (by assumption) ?_
      rotate_left
      · intro W hSw
        try dsimp only at hSw
        go_simp
        try with_reducible rfl
      simp only [Act.put, List.setIfInBounds_toArray, List.set_cons_zero]
      refine wpAnyH_take (i := 1) (v := ?_) rfl (by decide +kernel) (by decide +kernel) (by decide +kernel) (fun _ _ _ h => h) (Or.inl ⟨by rfl, ?_⟩) (by assumption) ?_
      rotate_left
      · intro W hSw
        try dsimp only at hSw
        go_simp
        try with_reducible rfl
      simp only [Act.put, List.setIfInBounds_toArray, List.set_cons_zero, List.set_cons_succ]
      refine wpAnyH_take (i := 2) (v := ?_) rfl (by decide +kernel) (by decide +kernel) (by decide +kernel) (fun _ _ _ h => h) (Or.inl ⟨by rfl, ?_⟩) (by assumption) ?_
      rotate_left
      · intro W hSw
        try dsimp only at hSw
        go_simp
        try with_reducible rfl
      simp only [Act.put, List.setIfInBounds_toArray, List.set_cons_zero, List.set_cons_succ]
      refine wpAnyH_ready (rs := [3]) (by decide +kernel) (by simp) ?_
      refine AllReadyH.cons (o := _) rfl (fun K hK => ?_) AllReadyH.nil
      go_simp
      go_at_call 36
      refine (HCl.out _ bQ).mono ?_
      rintro e w8 ⟨ao, n8, cap8, rfl, hown8, b8⟩
      have hown8' := hown8
      replace b8 := bQ.trans (b8.mono (Nat.le_refl _))
      have s8 : w8.cell? ⟨kb, 0, none⟩ = some (.slice vo vn vk) := (b8.cell (p := ⟨kb, 0, none⟩) hkr).trans c0
      go_wp2_with fail
      refine hK.out _ _ s8 (fun hHeld => ?_)
      clear hK K
      simp only [List.setIfInBounds_toArray, List.set_cons_zero, List.set_cons_succ]
      refine wpAnyH_ready (rs := [4]) (by decide +kernel) (by simp) ?_
      refine AllReadyH.cons (o := _) rfl (fun K hK => ?_) AllReadyH.nil
      go_simp
      have b9 : Below wr.heap.size wr (w8.alloc (.cells #[.slice ao n8 cap8] 29)) := b8.alloc b8.size _
      have s9 : (w8.alloc (.cells #[.slice ao n8 cap8] 29)).cell? ⟨kb, 0, none⟩ = some (.slice vo vn vk) := (b9.cell (p := ⟨kb, 0, none⟩) hkr).trans c0
      refine hK.out _ _ s9 (fun hHeld => ?_)
      clear hK K
      simp only [List.setIfInBounds_toArray, List.set_cons_zero, List.set_cons_succ]
      refine wpAnyH_ready (rs := [5]) (by decide +kernel) (by simp) ?_
      refine AllReadyH.cons (o := _) rfl (fun K hK => ?_) AllReadyH.nil
      obtain ⟨iT, hiT, hz1, hz2, hz3⟩ := info3 infoOps
      have hro9 := own_below hown0 b9 (Nat.le_refl _)
      have hs09 : W0.heap.size ≤ (w8.alloc (.cells #[.slice ao n8 cap8] 29)).heap.size := Nat.le_trans hszr b9.size
      obtain ⟨cv2, wa9, hra, hown9, hgr9, hnw9⟩ := run_append_at (P := Tryz.prog) (w8.alloc (.cells #[.slice ao n8 cap8] 29)) 22 22 W0.heap.size 29 iT _ 1 24 (by kernel_rfl) hiT hz1 hz2 hz3 rfl (by decide) (.slice vo vn vk) us.length us hro9 ⟨w8.heap.size, 0, none⟩ 1 1 [.slice ao n8 cap8] rfl (one_new_at rfl _ _) (by simp [Value.oneCell']) (by have : maxLen = 9223372036854775807 := rfl; omega) (by omega) hs09
      clear hiT hz1 hz2 hz3
      obtain ⟨gv, ck, rfl⟩ : ∃ g cap, cv2 = .slice (some ⟨g, 0, none⟩) (us.length + 1) cap := own_succ hown9
      have hcr : ∀ k, (Value.slice vo vn vk).ownBlock = some k → W0.heap.size ≤ k := fun k hk => (hown0.lt k hk).1
      have hblk9 : wa9.heap[kb]? = wr.heap[kb]? := (hgr9.block kb (Nat.lt_of_lt_of_le hkr b9.size) (fun e => by have := hcr kb e.symm; omega)).trans (b9.block kb hkr)
      have s10 : wa9.cell? ⟨kb, 0, none⟩ = some (.slice vo vn vk) := (World.cell?_of_block (w := wr) (a := ⟨kb, 0, none⟩) hblk9).trans c0
      have f10 : wa9.frozen? ⟨kb, 0, none⟩ = false := (World.frozen?_of_block (w := wr) (a := ⟨kb, 0, none⟩) hblk9).trans f0
      have HM : Hid (QP 0 W0 (wa9.setCell ⟨kb, 0, none⟩ (.slice (some ⟨gv, 0, none⟩) (us.length + 1) ck)) p (fun _ => true) kb (.slice sao sn scap) (.slice wao wn wcap) (.slice (some ⟨gv, 0, none⟩) (us.length + 1) ck) (us ++ [.slice ao n8 cap8])) := HQ.out.more HCY.out b8 (by simp only [if_true]; exact gops_own hown8) (fun g hg => ⟨Or.inr (by have h := (hown8.lt g hg).1; exact h), (hown8.lt g hg).2⟩) hgr9 hown9 (fun g hg => by have := hnw9 g hg; simpa using this)
      refine step_append_eq rfl (.tmp 23) (.tmp 26) 22 rfl (.slice vo vn vk) (.slice (some ⟨w8.heap.size, 0, none⟩) 1 1) rfl rfl (.slice (some ⟨gv, 0, none⟩) (us.length + 1) ck) wa9 hra ?_
      refine hK.out _ _ s10 (fun hHeld => ?_)
      clear hK K
      simp only [Act.put, List.setIfInBounds_toArray, List.set_cons_zero, List.set_cons_succ]
      refine wpAnyH_take (i := 6) (v := ?_) rfl (by decide +kernel) (by decide +kernel) (by decide +kernel) (fun _ _ _ h => h) (Or.inl ⟨by rfl, ?_⟩) (by assumption) ?_
      rotate_left
      · intro W hSw
        try dsimp only at hSw
        go_simp
        try with_reducible rfl
      simp only [Act.put, List.setIfInBounds_toArray, List.set_cons_zero, List.set_cons_succ]
      refine wpAnyH_done (by decide +kernel) ?_ _
      show Oper.wp _ _ _ _ _ _
      go_simp
      clear hra hown9 hgr9 hnw9 s8 s9 s10 f10 hHeld b8 b9 hown8 hown8' hro9 hs09 hblk9 c0 f0 hcd HCl hcr HQ bQ
      generalize wa9.setCell ⟨kb, 0, none⟩ (.slice (some ⟨gv, 0, none⟩) (us.length + 1) ck) = W9 at HM ⊢
      go_wp2
      go_roundw
      case rel => exact ⟨us ++ [.slice ao n8 cap8], _, _, _, by rw [List.length_append, List.length_singleton]; go_num, HM.out⟩
      case measure => simp [intOf]; omega
    · have hul : us.length = p.code.length := by omega
      have hki : decide ((us.length : Int) < (p.code.length : Int)) = false := decide_eq_false (by omega)
      have hki' : decide (us.length < p.code.length) = false := decide_eq_false (by omega)
      obtain ⟨q0, q1, q2, q3, _⟩ := hq.cs
      have hzb : wr.heap[w.heap.size + 1]? = some (.cells #[.slice none 0 0, .int .i64 0, .slice none 0 0, .slice none 0 0] 26 (0, 0)) := (htk.block (w.heap.size + 1) (by omega) (by simp; omega)).trans ((HBX.out.block (w.heap.size + 1) (by omega)).trans HZ.out)
      obtain ⟨z0, z1, z2, z3, y0, y1, y2, y3⟩ := blk4_cs hzb
      have HQ : Hid (QP 0 W0 wr p (fun _ => true) kb (.slice sao sn scap) (.slice wao wn wcap) (.slice vo vn vk) us) := hq
      have hne : kb ≠ w.heap.size + 1 := by omega
      clear hq htk hzb
      go_wp2
      refine bodyPost_ret (v := plV (.slice vo vn vk) p.ticks (.slice sao sn scap) (.slice wao wn wcap)) ?_ rfl ⟨_, _, _, rfl, ?_, ?_⟩
      · simp [results, Tryz.results48, go_sem, plV, z0, z1, z2, z3]
      · have ht := set4_touch wr (w.heap.size + 1) (.slice vo vn vk) (.int .i64 p.ticks) (.slice sao sn scap) (.slice wao wn wcap)
        have hrow : ∀ g, w3.heap.size ≤ g → g < W0.heap.size → g ≠ kb → ((((wr.setCell ⟨w.heap.size + 1, 0, none⟩ (.slice vo vn vk)).setCell ⟨w.heap.size + 1, 1, none⟩ (.int .i64 p.ticks)).setCell ⟨w.heap.size + 1, 2, none⟩ (.slice sao sn scap)).setCell ⟨w.heap.size + 1, 3, none⟩ (.slice wao wn wcap)).heap[g]? = W0.heap[g]? := fun g h1 h2 h3 => (ht.block g (by omega) (by simp; omega)).trans (HQ.out.tk.block g h2 (by simp; omega))
        refine ⟨us, PlO.of_qp HQ.out hul ht (fun m hm => by rw [List.mem_singleton] at hm; omega) (by omega) (own_base (own_block HSR.out.1 (fun g hg => ?_)) (by omega)) (own_base (own_block HWR.out.1 (fun g hg => ?_)) (by omega))⟩
        · have := HSR.out.1.lt g hg
          exact hrow g this.1 this.2 (HSR.out.2 g hg)
        · have := HWR.out.1.lt g hg
          exact hrow g this.1 this.2 (HWR.out.2 g hg)
      · exact set4_below hbw (w.heap.size + 1) (by omega) _ _ _ _
end Go.Proofs.YtajfgmlockjmhaiGreatDoor
