/-
  RefReadPlan2, RefReadPlan3: joined into one text.
-/
import Derived.Test.YtamnfadngbbaeacGreatDoorRefReadPlan
namespace Go.Proofs.YtamnfadngbbaeacGreatDoor
open Go.RowKit

set_option maxRecDepth 1000000 in
set_option maxHeartbeats 16000000 in
theorem readplan_main (t : ByteArray) (u : List UInt8) (r : List (List UInt8)) (p : List UInt8) (pps : List (List UInt8)) (n : Int) (w : World) (hs : t.size ≤ 1099511627776) (hc : cutB 10 t.data.toList = (u :: r) ++ [[]]) (hw : cutB 32 u = p :: pps) (hn : numsOf pps = some [n]) (hp : p = wFrame) :
    Calls Tryz.prog 10 #[.string t] w (RdP w (planP t.data.toList)) := by
  subst hp
  have HR : Hid (planP t.data.toList = planR (planOf (u :: r))) := planP_shut hc
  have HFR : Hid (frameOf u = some n) := frameOf_yes (body_some hw hn)
  have HPL : Hid (∀ v ∈ r, (⟨v.toArray⟩ : ByteArray).size ≤ 1099511627776) := fun v hv => by
    have := piece_len t.data.toList [] v (by rw [show cutGo 10 [] t.data.toList = (u :: r) ++ [[]] from hc]; simp [hv])
    rw [ba_size]
    simp at this
    omega
  have hx0 := Bx.first w (.slice none 0 0) 0 (.slice none 0 0) (.slice none 0 0)
  have hcut := rcut_text t (u :: r) [] (w.alloc (.cells #[.slice none 0 0, .int .i64 0, .slice none 0 0, .slice none 0 0] 26)) hs hc
  have hne : (([] : List UInt8) == []) = true := rfl
  have hlen : r.length ≤ 1099511627776 := by
    have := (cutGo_len 10 t.data.toList []).2
    rw [show cutGo 10 [] t.data.toList = (u :: r) ++ [[]] from hc] at this
    simp at this
    omega
  have hul : (⟨u.toArray⟩ : ByteArray).size ≤ 1099511627776 := by
    have := piece_len t.data.toList [] u (by rw [show cutGo 10 [] t.data.toList = (u :: r) ++ [[]] from hc]; simp)
    rw [ba_size]
    simp at this
    omega
  have hpl : pps.length ≤ 1099511627776 := by
    have := (cutGo_len 32 u []).2
    rw [show cutGo 32 [] u = wFrame :: pps from hw] at this
    rw [ba_size] at hul
    simp at this
    omega
  have hcl := fun W => rcut_line ⟨u.toArray⟩ wFrame pps W hul hw
  have hnum := fun W v h => rnums_some v wFrame pps [n] W h hpl hn
  clear hc hw hn
  unfold wFrame at hcl hnum
  simp only [List.length_cons] at hcut
  go_enter Tryz.func10, Tryz.ntmps10
  go_upto_region 9 with (first
    | (go_at_call 28; refine hcut.mono ?_; rintro e w1 ⟨⟨g, cap, rfl, hg, hgq, hgc⟩, b1⟩; clear hcut; have hx := hx0.step b1; have hg0 := hgc 0 u rfl; have HGC : Hid (∀ (i : Nat) v, r[i]? = some v → w1.cell? ⟨g, i + 1, none⟩ = some (.string ⟨v.toArray⟩)) := (fun i v hv => hgc (i + 1) v (by simpa using hv)); clear hgc b1 hx0)
    | (go_at_call 28; refine (hcl _).mono ?_; rintro e w2 ⟨⟨g2, cap2, rfl, hst, hg2, hgc2⟩, b2⟩; clear hcl; have hx2 := hx.step b2; have b12 := b2; clear b2 hgq hg0 hx)
    | (go_at_call 29; refine (hnum _ _ hst).mono ?_; rintro e w3 ⟨⟨ao, nn, cap3, rfl, hnl, hat⟩, b3⟩; clear hnum; have hx3 := hx2.step b3; have hg3 : w3.cell? ⟨g2, 0, none⟩ = some (.string ⟨#[102, 114, 97, 109, 101]⟩) := (b3.cell (p := ⟨g2, 0, none⟩) hg2).trans hgc2; have b13 := b12.trans (b3.mono b12.size); obtain rfl : nn = 1 := (by simpa using hnl.symm); obtain ⟨nb, no, rfl, hnb, hcn⟩ := intAt_lit hat; have d0 := hcn 0 n rfl; rw [Nat.add_zero] at d0; clear b3 hst hgc2 hat hcn hx2 b12 hnl))
  have HLN : Hid (∀ W, Below w3.heap.size w3 W → ∀ (i : Nat) v, r[i]? = some v → W.cell? ⟨g, i + 1, none⟩ = some (.string ⟨v.toArray⟩)) := fun W hb i v hv => (hb.cell (p := ⟨g, i + 1, none⟩) (Nat.lt_of_lt_of_le hg b13.size)).trans ((b13.cell (p := ⟨g, i + 1, none⟩) hg).trans (HGC.out i v hv))
  have HX : Hid (∀ W, Below w3.heap.size w3 W → Bx w W (.slice none 0 0) 0 (.slice none 0 0) (.slice none 0 0)) := fun W hb => hx3.step hb
  have hB0 : Below w3.heap.size w3 (w3.alloc (.cells #[.slice none 0 0, .int .i64 n, .slice none 0 0, .slice none 0 0] 26)) := (Below.refl _ _).alloc (Nat.le_refl _) _
  have hR0 : RP (w3.alloc (.cells #[.slice none 0 0, .int .i64 n, .slice none 0 0, .slice none 0 0] 26)) (w3.heap.size + 1) w3.heap.size ⟨[], n, [], []⟩ (.slice none 0 0) (.slice none 0 0) (.slice none 0 0) [] :=
    ⟨by simp, by simp, by simp, by simp, by simp, by simp, by simp, Nat.lt_succ_self _, by simp, World.ownsRow_nil _ _ _ _, World.ownsRow_nil _ _ _ _, World.ownsRow_nil _ _ _ _, fun i u c hu => by simp at hu, fun i j u v _ hu => by simp at hu⟩
  clear HGC hg b13 hx3 hg2 hg3 d0 hnb hne hul hpl
  go_cut [9] from 14 to 205 (fun i wx => i = .int .i64 1 ∧ wx = w3.alloc (.cells #[.slice none 0 0, .int .i64 n, .slice none 0 0, .slice none 0 0] 26))
  case first =>
    go_wp2
    go_meet
    exact ⟨rfl, rfl⟩
  case rest =>
  obtain ⟨rfl, hwc⟩ := hcut
  rw [hwc]
  clear hwc wc
  go_step
  apply wp_seq_k
  intro _ _
  go_cut [9] from 56 to 100 (fun i wx => ∃ (k : Nat) (spans : List S3) (vs : Value), k ≤ r.length ∧ i = .int .i64 ((k : Int) + 1) ∧ Hid (takeF spanOf r = (spans, r.drop k)) ∧ Below w3.heap.size w3 wx ∧ RP wx (w3.heap.size + 1) w3.heap.size ⟨[], n, spans, []⟩ (.slice none 0 0) vs (.slice none 0 0) [])
  case first =>
    go_wp2
    go_loopw [9] (fun i wr => ∃ (k : Nat) (spans : List S3) (vs : Value), k ≤ r.length ∧ spans.length ≤ k ∧ i = .int .i64 ((k : Int) + 1) ∧ Hid (takeF spanOf r = (spans ++ (takeF spanOf (r.drop k)).1, (takeF spanOf (r.drop k)).2)) ∧ Below w3.heap.size w3 wr ∧ RP wr (w3.heap.size + 1) w3.heap.size ⟨[], n, spans, []⟩ (.slice none 0 0) vs (.slice none 0 0) []) (fun i _ => r.length + 1 - (intOf i).toNat)
    case atStart => exact ⟨0, [], _, Nat.zero_le _, Nat.le_refl _, rfl, by show _ = _; simp, hB0, hR0⟩
    case round =>
    clear hB0 hR0
    obtain ⟨k, spans, vs, hk, hsk, rfl, HT, hB, hR⟩ := hrel
    by_cases hkl : k < r.length
    · have hki : (k : Int) + 1 < (r.length : Int) + 1 := by omega
      obtain ⟨v, hv⟩ : ∃ v, r[k]? = some v := ⟨r[k], List.getElem?_eq_getElem hkl⟩
      have d0 := HLN.out wr hB k v hv
      have hdr : r.drop k = v :: r.drop (k + 1) := by
        rw [List.drop_eq_getElem_cons hkl]
        rw [List.getElem?_eq_getElem hkl] at hv
        rw [Option.some.inj hv]
      have hvl := HPL.out v (List.mem_of_getElem? hv)
      have HNO : Hid (spanOf v = none → takeF spanOf r = (spans, r.drop k)) := fun h => by rw [HT.out, hdr, takeF_no h]; simp
      have HYS : Hid (∀ x, spanOf v = some x → takeF spanOf r = ((spans ++ [x]) ++ (takeF spanOf (r.drop (k + 1))).1, (takeF spanOf (r.drop (k + 1))).2)) := fun x h => by rw [HT.out, hdr, takeF_yes h]; simp
      obtain ⟨p, pps, hw⟩ := words_of v
      have hpl : pps.length ≤ 1099511627776 := by
        have := (cutGo_len 32 v []).2
        rw [show cutGo 32 [] v = p :: pps from hw] at this
        rw [ba_size] at hvl
        simp at this
        omega
      have qc := rcut_line ⟨v.toArray⟩ p pps wr hvl hw
      have HR2 : Hid (∀ W, Below wr.heap.size wr W → RP W (w3.heap.size + 1) w3.heap.size ⟨[], n, spans, []⟩ (.slice none 0 0) vs (.slice none 0 0) []) := fun W hb => hR.below hb
      clear hv hdr hR HT
      cases hn : numsOf pps with
      | none =>
        have HF : Hid (takeF spanOf r = (spans, r.drop k)) := HNO.out (spanOf_bad (body_none hw hn))
        have qn := fun W v' h => rnums_none v' p pps W h hpl hn
        clear HNO HYS hw hn
        go_wp2_with (first
          | (go_at_call 28; refine qc.mono ?_; rintro e w4 ⟨⟨g4, cap4, rfl, hst, hg4, hgc4⟩, b4⟩; clear qc)
          | (go_at_call 29; refine (qn _ _ hst).mono ?_; rintro e w5 ⟨⟨ao, nn, cap5, rfl⟩, b5⟩; clear qn; have b45 := b4.trans (b5.mono b4.size); clear b4 b5 hst hgc4))
        go_meet
        exact ⟨k, spans, vs, by omega, rfl, HF, hB.trans (b45.mono hB.size), HR2.out _ b45⟩
      | some ns =>
        have qn := fun W v' h => rnums_some v' p pps ns W h hpl hn
        have hbd := body_some hw hn
        by_cases hp : p = wSpan
        · subst hp
          by_cases hl : ns.length = 3
          · obtain ⟨x, y, z, rfl⟩ := three_of hl
            have HF : Hid (takeF spanOf r = ((spans ++ [(x, y, z)]) ++ (takeF spanOf (r.drop (k + 1))).1, (takeF spanOf (r.drop (k + 1))).2)) := HYS.out _ (spanOf_yes hbd)
            have qo := fun W v' h => rnums_own v' wSpan pps x [y, z] W h hpl hn
            clear HNO HYS hw hn hbd hl qn
            unfold wSpan at qc qo
            simp only [List.length_cons, List.length_nil, Nat.zero_add, Nat.reduceAdd] at qo
            go_upto_region 14 with (first
              | (go_at_call 28; refine qc.mono ?_; rintro e w4 ⟨⟨g4, cap4, rfl, hst, hg4, hgc4⟩, b4⟩; clear qc)
              | (go_at_call 29; refine (qo _ _ hst).mono ?_; rintro e w5 ⟨nb, cap5, rfl, hnb0, hnb, hcn, b5⟩; clear qo; have hg5 : w5.cell? ⟨g4, 0, none⟩ = some (.string ⟨#[115, 112, 97, 110]⟩) := (b5.cell (p := ⟨g4, 0, none⟩) hg4).trans hgc4; have b45 := b4.trans (b5.mono b4.size); have hb4s := b4.size; clear b4 b5 hst hgc4))
            have hRr := HR2.out wr (Below.refl _ _)
            have hpbw : w3.heap.size + 1 ≤ wr.heap.size := hRr.le
            have hvb : ∀ j, vs.ownBlock = some j → j < wr.heap.size := fun j hj => (hRr.spans.lt j hj).2
            have hR5 := HR2.out w5 b45
            have hs5 := b45.size
            have hAl : Below w5.heap.size w5 ((w5.alloc (.cells #[.int .i64 x, .int .i64 y, .int .i64 z] 45)).drew) := ((Below.refl _ w5).alloc (Nat.le_refl _) _).drew
            have hR6 := hR5.below hAl
            obtain ⟨jj, hj, hy0, hy1, hy2⟩ := info_parts infoSp
            obtain ⟨va, wa, hra, owna, hga, _⟩ := run_append_at (P := Tryz.prog) ((w5.alloc (.cells #[.int .i64 x, .int .i64 y, .int .i64 z] 45)).drew) 23 23 (w3.heap.size + 1) 45 jj (.agg #[.int .i64 0, .int .i64 0, .int .i64 0]) 3 24 Tryz.underlying23 hj hy0 hy1 hy2 rfl (by decide) vs spans.length (spCells spans) hR6.spans ⟨w5.heap.size, 0, none⟩ 1 1 [.int .i64 x, .int .i64 y, .int .i64 z] rfl (sp_new w5 (.int .i64 x) (.int .i64 y) (.int .i64 z) 45) (three_one x y z) (by unfold maxLen; omega) (by omega) hR6.le
            obtain ⟨gv, cv, rfl⟩ := own4_form owna
            have HRE : Hid (RP (wa.setCell ⟨w3.heap.size, 2, none⟩ (.slice gv (spans.length + 1) cv)) (w3.heap.size + 1) w3.heap.size ⟨[], n, spans ++ [(x, y, z)], []⟩ (.slice none 0 0) (.slice gv (spans.length + 1) cv) (.slice none 0 0) []) := hR6.span (s := (x, y, z)) hga owna
            obtain ⟨bc, bf, _⟩ := hR6.box hga (fun j hj => (hR6.spans.lt j hj).1)
            have k2a := (bc 2).trans hR6.c2
            have f2a := (bf 2).trans hR6.f2
            have k2 := hR5.c2
            have e0 := hcn 0 x rfl
            have e1 := hcn 1 y rfl
            have e2 := hcn 2 z rfl
            have hpb5 : w3.heap.size < w5.heap.size := by omega
            have gdr : ∀ o, w5.drew.cell? ⟨nb, o, none⟩ = w5.cell? ⟨nb, o, none⟩ := fun o => rfl
            have gal : ∀ o, ((w5.alloc (.cells #[.int .i64 x, .int .i64 y, .int .i64 z] 45)).drew).cell? ⟨nb, o, none⟩ = w5.cell? ⟨nb, o, none⟩ := fun o => hAl.cell (p := ⟨nb, o, none⟩) hnb
            have ga : ∀ o, wa.cell? ⟨nb, o, none⟩ = w5.cell? ⟨nb, o, none⟩ := fun o => (World.cell?_of_block (a := ⟨nb, o, none⟩) (hga.block nb (by simp; omega) (fun e => by have := hvb nb e.symm; omega))).trans (gal o)
            have sdr : w5.drew.cell? ⟨w3.heap.size, 2, none⟩ = some vs ∧ w5.drew.cell? ⟨nb, 0, none⟩ = some (.int .i64 x) ∧ w5.drew.cell? ⟨nb, 1, none⟩ = some (.int .i64 y) ∧ w5.drew.cell? ⟨nb, 2, none⟩ = some (.int .i64 z) := ⟨k2, e0, e1, e2⟩
            have sal : ((w5.alloc (.cells #[.int .i64 x, .int .i64 y, .int .i64 z] 45)).drew).cell? ⟨w3.heap.size, 2, none⟩ = some vs ∧ ((w5.alloc (.cells #[.int .i64 x, .int .i64 y, .int .i64 z] 45)).drew).cell? ⟨nb, 0, none⟩ = some (.int .i64 x) ∧ ((w5.alloc (.cells #[.int .i64 x, .int .i64 y, .int .i64 z] 45)).drew).cell? ⟨nb, 1, none⟩ = some (.int .i64 y) ∧ ((w5.alloc (.cells #[.int .i64 x, .int .i64 y, .int .i64 z] 45)).drew).cell? ⟨nb, 2, none⟩ = some (.int .i64 z) := ⟨hR6.c2, (gal 0).trans e0, (gal 1).trans e1, (gal 2).trans e2⟩
            have sap : wa.cell? ⟨w3.heap.size, 2, none⟩ = some vs ∧ wa.cell? ⟨nb, 0, none⟩ = some (.int .i64 x) ∧ wa.cell? ⟨nb, 1, none⟩ = some (.int .i64 y) ∧ wa.cell? ⟨nb, 2, none⟩ = some (.int .i64 z) := ⟨k2a, (ga 0).trans e0, (ga 1).trans e1, (ga 2).trans e2⟩
            have hB6 : Below w3.heap.size w3 (wa.setCell ⟨w3.heap.size, 2, none⟩ (.slice gv (spans.length + 1) cv)) := ((((hB.trans (b45.mono hB.size)).trans (hAl.mono (by omega))).grown hga (by simp; omega) (fun j hj => by have := (hR6.spans.lt j hj).1; omega))).setCell (p := ⟨w3.heap.size, 2, none⟩) (Nat.le_refl _) _
            clear hR5 hR6 hRr owna hga bc bf hcn HR2 hAl gdr
            refine wp_region_popped (fun W => W.cell? ⟨w3.heap.size, 2, none⟩ = some vs ∧ W.cell? ⟨nb, 0, none⟩ = some (.int .i64 x) ∧ W.cell? ⟨nb, 1, none⟩ = some (.int .i64 y) ∧ W.cell? ⟨nb, 2, none⟩ = some (.int .i64 z)) (by kernel_rfl) rfl (by decide +kernel) sdr (fun hHeld => ?_)
            simp only [List.pop_toArray, List.dropLast_cons_cons, List.dropLast_singleton, List.size_toArray, List.length_cons, List.length_nil, Nat.reduceAdd, Array.replicate_succ, Array.replicate_zero, List.push_toArray, List.nil_append, List.cons_append]
            refine wpAnyH_take (i := 0) (v := ?_) rfl (by decide +kernel) (by decide +kernel) (by decide +kernel) (fun _ _ _ h => h) (Or.inl ⟨by rfl, ?_⟩) (by assumption) ?_
            rotate_left
            · intro W hSw
              try dsimp only at hSw
              go_simp
              try with_reducible rfl
            simp only [Act.put, List.setIfInBounds_toArray, List.set_cons_zero]
            refine wpAnyH_take (i := 1) (v := ?_) rfl (by decide +kernel) (by decide +kernel) (by decide +kernel) (fun _ _ _ h => h) (Or.inl ⟨by rfl, ?_⟩) (by assumption) ?_
            rotate_left
            · intro W hSw
              try dsimp only at hSw
              go_simp
              try with_reducible rfl
            simp only [Act.put, List.setIfInBounds_toArray, List.set_cons_zero, List.set_cons_succ]
            refine wpAnyH_take (i := 2) (v := ?_) rfl (by decide +kernel) (by decide +kernel) (by decide +kernel) (fun _ _ _ h => h) (Or.inl ⟨by rfl, ?_⟩) (by assumption) ?_
            rotate_left
            · intro W hSw
              try dsimp only at hSw
              go_simp
              try with_reducible rfl
            simp only [Act.put, List.setIfInBounds_toArray, List.set_cons_zero, List.set_cons_succ]
            refine wpAnyH_take (i := 3) (v := ?_) rfl (by decide +kernel) (by decide +kernel) (by decide +kernel) (fun _ _ _ h => h) (Or.inl ⟨by rfl, ?_⟩) (by assumption) ?_
            rotate_left
            · intro W hSw
              try dsimp only at hSw
              go_simp
              try with_reducible rfl
            simp only [Act.put, List.setIfInBounds_toArray, List.set_cons_zero, List.set_cons_succ]
            refine wpAnyH_take (i := 4) (v := ?_) rfl (by decide +kernel) (by decide +kernel) (by decide +kernel) (fun _ _ _ h => h) (Or.inl ⟨by rfl, ?_⟩) (by assumption) ?_
            rotate_left
            · intro W hSw
              try dsimp only at hSw
              go_simp
              try with_reducible rfl
            simp only [Act.put, List.setIfInBounds_toArray, List.set_cons_zero, List.set_cons_succ]
            refine wpAnyH_take (i := 5) (v := ?_) rfl (by decide +kernel) (by decide +kernel) (by decide +kernel) (fun _ _ _ h => h) (Or.inl ⟨by rfl, ?_⟩) (by assumption) ?_
            rotate_left
            · intro W hSw
              try dsimp only at hSw
              go_simp
              try with_reducible rfl
            simp only [Act.put, List.setIfInBounds_toArray, List.set_cons_zero, List.set_cons_succ]
            refine wpAnyH_take (i := 6) (v := ?_) rfl (by decide +kernel) (by decide +kernel) (by decide +kernel) (fun _ _ _ h => h) (Or.inl ⟨by rfl, ?_⟩) (by assumption) ?_
            rotate_left
            · intro W hSw
              try dsimp only at hSw
              go_simp
              try with_reducible rfl
            simp only [Act.put, List.setIfInBounds_toArray, List.set_cons_zero, List.set_cons_succ]
            refine wpAnyH_take (i := 7) (v := ?_) rfl (by decide +kernel) (by decide +kernel) (by decide +kernel) (fun _ _ _ h => h) (Or.inl ⟨by rfl, ?_⟩) (by assumption) ?_
            rotate_left
            · intro W hSw
              try dsimp only at hSw
              go_simp
              try with_reducible rfl
            simp only [Act.put, List.setIfInBounds_toArray, List.set_cons_zero, List.set_cons_succ]
            refine wpAnyH_take (i := 8) (v := ?_) rfl (by decide +kernel) (by decide +kernel) (by decide +kernel) (fun _ _ _ h => h) (Or.inl ⟨by rfl, ?_⟩) (by assumption) ?_
            rotate_left
            · intro W hSw
              try dsimp only at hSw
              go_simp
              try with_reducible rfl
            simp only [Act.put, List.setIfInBounds_toArray, List.set_cons_zero, List.set_cons_succ]
            refine wpAnyH_take (i := 9) (v := ?_) rfl (by decide +kernel) (by decide +kernel) (by decide +kernel) (fun _ _ _ h => h) (Or.inl ⟨by rfl, ?_⟩) (by assumption) ?_
            rotate_left
            · intro W hSw
              try dsimp only at hSw
              go_simp
              try with_reducible rfl
            simp only [Act.put, List.setIfInBounds_toArray, List.set_cons_zero, List.set_cons_succ]
            refine wpAnyH_take (i := 10) (v := ?_) rfl (by decide +kernel) (by decide +kernel) (by decide +kernel) (fun _ _ _ h => h) (Or.inl ⟨by rfl, ?_⟩) (by assumption) ?_
            rotate_left
            · intro W hSw
              try dsimp only at hSw
              go_simp
              try with_reducible rfl
            simp only [Act.put, List.setIfInBounds_toArray, List.set_cons_zero, List.set_cons_succ]
            refine wpAnyH_take (i := 11) (v := ?_) rfl (by decide +kernel) (by decide +kernel) (by decide +kernel) (fun _ _ _ h => h) (Or.inl ⟨by rfl, ?_⟩) (by assumption) ?_
            rotate_left
            · intro W hSw
              try dsimp only at hSw
              go_simp
              try with_reducible rfl
            simp only [Act.put, List.setIfInBounds_toArray, List.set_cons_zero, List.set_cons_succ]
            refine wpAnyH_ready (rs := [12]) (by decide +kernel) (by simp) ?_
            refine AllReadyH.cons (o := _) rfl (fun K hK => ?_) AllReadyH.nil
            go_simp
            refine hK.out _ _ sal (fun hHeld => ?_)
            clear hK K
            refine wpAnyH_ready (rs := [13]) (by decide +kernel) (by simp) ?_
            refine AllReadyH.cons (o := _) rfl (fun K hK => ?_) AllReadyH.nil
            refine step_append_eq rfl (.tmp 85) (.tmp 96) 23 rfl vs (.slice (some ⟨w5.heap.size, 0, none⟩) 1 1) rfl rfl (.slice gv (spans.length + 1) cv) wa hra ?_
            refine hK.out _ _ sap (fun hHeld => ?_)
            clear hK K
            simp only [Act.put, List.setIfInBounds_toArray, List.set_cons_zero, List.set_cons_succ]
            refine wpAnyH_take (i := 14) (v := ?_) rfl (by decide +kernel) (by decide +kernel) (by decide +kernel) (fun _ _ _ h => h) (Or.inl ⟨by rfl, ?_⟩) (by assumption) ?_
            rotate_left
            · intro W hSw
              try dsimp only at hSw
              go_simp
              try with_reducible rfl
            simp only [Act.put, List.setIfInBounds_toArray, List.set_cons_zero, List.set_cons_succ]
            refine wpAnyH_done (by decide +kernel) ?_ _
            show Oper.wp _ _ _ _ _ _
            go_simp
            go_wp2
            go_roundw
            case rel => exact ⟨k + 1, spans ++ [(x, y, z)], _, by omega, by simp; omega, by go_num, HF, hB6, HRE.out⟩
            case measure => simp [intOf]; omega
          · have HF : Hid (takeF spanOf r = (spans, r.drop k)) := HNO.out (spanOf_no hbd (Or.inr hl))
            clear HNO HYS hw hn hbd
            unfold wSpan at qc qn
            go_wp2_with (first
              | (go_at_call 28; refine qc.mono ?_; rintro e w4 ⟨⟨g4, cap4, rfl, hst, hg4, hgc4⟩, b4⟩; clear qc)
              | (go_at_call 29; refine (qn _ _ hst).mono ?_; rintro e w5 ⟨⟨ao, nn, cap5, rfl, hnl, hat⟩, b5⟩; clear qn; have hg5 : w5.cell? ⟨g4, 0, none⟩ = some (.string ⟨#[115, 112, 97, 110]⟩) := (b5.cell (p := ⟨g4, 0, none⟩) hg4).trans hgc4; have b45 := b4.trans (b5.mono b4.size); have hnb : ((nn : Int) == 3) = false := (by simp; omega); clear b4 b5 hst hgc4 hat hnl))
            go_meet
            exact ⟨k, spans, vs, by omega, rfl, HF, hB.trans (b45.mono hB.size), HR2.out _ b45⟩
        · have HF : Hid (takeF spanOf r = (spans, r.drop k)) := HNO.out (spanOf_no hbd (Or.inl hp))
          have hpb : (p == [115, 112, 97, 110]) = false := by simpa [wSpan] using hp
          clear HNO HYS hw hn hbd hp
          go_wp2_with (first
            | (go_at_call 28; refine qc.mono ?_; rintro e w4 ⟨⟨g4, cap4, rfl, hst, hg4, hgc4⟩, b4⟩; clear qc)
            | (go_at_call 29; refine (qn _ _ hst).mono ?_; rintro e w5 ⟨⟨ao, nn, cap5, rfl, hnl, hat⟩, b5⟩; clear qn; have hg5 : w5.cell? ⟨g4, 0, none⟩ = some (.string ⟨p.toArray⟩) := (b5.cell (p := ⟨g4, 0, none⟩) hg4).trans hgc4; have b45 := b4.trans (b5.mono b4.size); clear b4 b5 hst hgc4 hat hnl))
          go_meet
          exact ⟨k, spans, vs, by omega, rfl, HF, hB.trans (b45.mono hB.size), HR2.out _ b45⟩
    · obtain rfl : k = r.length := by omega
      go_wp2
      go_meet
      exact ⟨r.length, spans, vs, Nat.le_refl _, rfl, by show _ = _; rw [HT.out]; simp [takeF], hB, hR⟩
  case rest =>
  obtain ⟨k0, spans, vs, hk0, rfl, HT0, hB0, hR0⟩ := hcut
  rename World => wx1
  go_step
  apply wp_seq_k
  intro _ _
  go_cut [9] from 101 to 148 (fun i wx => ∃ (k : Nat) (wires : List W4) (vw : Value), k ≤ r.length ∧ i = .int .i64 ((k : Int) + 1) ∧ Hid (takeF wireOf (r.drop k0) = (wires, r.drop k)) ∧ Below w3.heap.size w3 wx ∧ RP wx (w3.heap.size + 1) w3.heap.size ⟨[], n, spans, wires⟩ (.slice none 0 0) vs vw [])
  case first =>
    go_wp2
    go_loopw [9] (fun i wr => ∃ (k : Nat) (wires : List W4) (vw : Value), k ≤ r.length ∧ wires.length ≤ k ∧ i = .int .i64 ((k : Int) + 1) ∧ Hid (takeF wireOf (r.drop k0) = (wires ++ (takeF wireOf (r.drop k)).1, (takeF wireOf (r.drop k)).2)) ∧ Below w3.heap.size w3 wr ∧ RP wr (w3.heap.size + 1) w3.heap.size ⟨[], n, spans, wires⟩ (.slice none 0 0) vs vw []) (fun i _ => r.length + 1 - (intOf i).toNat)
    case atStart => exact ⟨k0, [], _, hk0, Nat.zero_le _, rfl, by show _ = _; simp, hB0, hR0⟩
    case round =>
    clear hB0 hR0
    obtain ⟨k, wires, vw, hk, hsk, rfl, HT, hB, hR⟩ := hrel
    by_cases hkl : k < r.length
    · have hki : (k : Int) + 1 < (r.length : Int) + 1 := by omega
      obtain ⟨v, hv⟩ : ∃ v, r[k]? = some v := ⟨r[k], List.getElem?_eq_getElem hkl⟩
      have d0 := HLN.out wr hB k v hv
      have hdr : r.drop k = v :: r.drop (k + 1) := by
        rw [List.drop_eq_getElem_cons hkl]
        rw [List.getElem?_eq_getElem hkl] at hv
        rw [Option.some.inj hv]
      have hvl := HPL.out v (List.mem_of_getElem? hv)
      have HNO : Hid (wireOf v = none → takeF wireOf (r.drop k0) = (wires, r.drop k)) := fun h => by rw [HT.out, hdr, takeF_no h]; simp
      have HYS : Hid (∀ x, wireOf v = some x → takeF wireOf (r.drop k0) = ((wires ++ [x]) ++ (takeF wireOf (r.drop (k + 1))).1, (takeF wireOf (r.drop (k + 1))).2)) := fun x h => by rw [HT.out, hdr, takeF_yes h]; simp
      obtain ⟨p, pps, hw⟩ := words_of v
      have hpl : pps.length ≤ 1099511627776 := by
        have := (cutGo_len 32 v []).2
        rw [show cutGo 32 [] v = p :: pps from hw] at this
        rw [ba_size] at hvl
        simp at this
        omega
      have qc := rcut_line ⟨v.toArray⟩ p pps wr hvl hw
      have HR2 : Hid (∀ W, Below wr.heap.size wr W → RP W (w3.heap.size + 1) w3.heap.size ⟨[], n, spans, wires⟩ (.slice none 0 0) vs vw []) := fun W hb => hR.below hb
      clear hv hdr hR HT
      cases hn : numsOf pps with
      | none =>
        have HF : Hid (takeF wireOf (r.drop k0) = (wires, r.drop k)) := HNO.out (wireOf_bad (body_none hw hn))
        have qn := fun W v' h => rnums_none v' p pps W h hpl hn
        clear HNO HYS hw hn
        go_wp2_with (first
          | (go_at_call 28; refine qc.mono ?_; rintro e w4 ⟨⟨g4, cap4, rfl, hst, hg4, hgc4⟩, b4⟩; clear qc)
          | (go_at_call 29; refine (qn _ _ hst).mono ?_; rintro e w5 ⟨⟨ao, nn, cap5, rfl⟩, b5⟩; clear qn; have b45 := b4.trans (b5.mono b4.size); clear b4 b5 hst hgc4))
        go_meet
        exact ⟨k, wires, vw, by omega, rfl, HF, hB.trans (b45.mono hB.size), HR2.out _ b45⟩
      | some ns =>
        have qn := fun W v' h => rnums_some v' p pps ns W h hpl hn
        have hbd := body_some hw hn
        by_cases hp : p = wWire
        · subst hp
          by_cases hl : ns.length = 4
          · obtain ⟨x, y, z, d, rfl⟩ := four_of hl
            have HF : Hid (takeF wireOf (r.drop k0) = ((wires ++ [(x, y, z, d)]) ++ (takeF wireOf (r.drop (k + 1))).1, (takeF wireOf (r.drop (k + 1))).2)) := HYS.out _ (wireOf_yes hbd)
            have qo := fun W v' h => rnums_own v' wWire pps x [y, z, d] W h hpl hn
            clear HNO HYS hw hn hbd hl qn
            unfold wWire at qc qo
            simp only [List.length_cons, List.length_nil, Nat.zero_add, Nat.reduceAdd] at qo
            go_upto_region 20 with (first
              | (go_at_call 28; refine qc.mono ?_; rintro e w4 ⟨⟨g4, cap4, rfl, hst, hg4, hgc4⟩, b4⟩; clear qc)
              | (go_at_call 29; refine (qo _ _ hst).mono ?_; rintro e w5 ⟨nb, cap5, rfl, hnb0, hnb, hcn, b5⟩; clear qo; have hg5 : w5.cell? ⟨g4, 0, none⟩ = some (.string ⟨#[119, 105, 114, 101]⟩) := (b5.cell (p := ⟨g4, 0, none⟩) hg4).trans hgc4; have b45 := b4.trans (b5.mono b4.size); have hb4s := b4.size; clear b4 b5 hst hgc4))
            have hRr := HR2.out wr (Below.refl _ _)
            have hpbw : w3.heap.size + 1 ≤ wr.heap.size := hRr.le
            have hvb : ∀ j, vw.ownBlock = some j → j < wr.heap.size := fun j hj => (hRr.wires.lt j hj).2
            have hR5 := HR2.out w5 b45
            have hs5 := b45.size
            have hAl : Below w5.heap.size w5 ((w5.alloc (.cells #[.int .i64 x, .int .i64 y, .int .i64 z, .int .i64 d] 47)).drew) := ((Below.refl _ w5).alloc (Nat.le_refl _) _).drew
            have hR6 := hR5.below hAl
            obtain ⟨jj, hj, hy0, hy1, hy2⟩ := info_parts infoWr
            obtain ⟨va, wa, hra, owna, hga, _⟩ := run_append_at (P := Tryz.prog) ((w5.alloc (.cells #[.int .i64 x, .int .i64 y, .int .i64 z, .int .i64 d] 47)).drew) 24 24 (w3.heap.size + 1) 47 jj (.agg #[.int .i64 0, .int .i64 0, .int .i64 0, .int .i64 0]) 4 32 Tryz.underlying24 hj hy0 hy1 hy2 rfl (by decide) vw wires.length (wrCells wires) hR6.wires ⟨w5.heap.size, 0, none⟩ 1 1 [.int .i64 x, .int .i64 y, .int .i64 z, .int .i64 d] rfl (wr_new rfl (.int .i64 x) (.int .i64 y) (.int .i64 z) (.int .i64 d) 47) (four_one x y z d) (by unfold maxLen; omega) (by omega) hR6.le
            obtain ⟨gv, cv, rfl⟩ := own4_form owna
            have HRE : Hid (RP (wa.setCell ⟨w3.heap.size, 3, none⟩ (.slice gv (wires.length + 1) cv)) (w3.heap.size + 1) w3.heap.size ⟨[], n, spans, wires ++ [(x, y, z, d)]⟩ (.slice none 0 0) vs (.slice gv (wires.length + 1) cv) []) := hR6.wire (s := (x, y, z, d)) hga owna
            obtain ⟨bc, bf, _⟩ := hR6.box hga (fun j hj => (hR6.wires.lt j hj).1)
            have k2a := (bc 3).trans hR6.c3
            have f2a := (bf 3).trans hR6.f3
            have k2 := hR5.c3
            have e0 := hcn 0 x rfl
            have e1 := hcn 1 y rfl
            have e2 := hcn 2 z rfl
            have e3 := hcn 3 d rfl
            have hpb5 : w3.heap.size < w5.heap.size := by omega
            have gdr : ∀ o, w5.drew.cell? ⟨nb, o, none⟩ = w5.cell? ⟨nb, o, none⟩ := fun o => rfl
            have gal : ∀ o, ((w5.alloc (.cells #[.int .i64 x, .int .i64 y, .int .i64 z, .int .i64 d] 47)).drew).cell? ⟨nb, o, none⟩ = w5.cell? ⟨nb, o, none⟩ := fun o => hAl.cell (p := ⟨nb, o, none⟩) hnb
            have ga : ∀ o, wa.cell? ⟨nb, o, none⟩ = w5.cell? ⟨nb, o, none⟩ := fun o => (World.cell?_of_block (a := ⟨nb, o, none⟩) (hga.block nb (by simp; omega) (fun e => by have := hvb nb e.symm; omega))).trans (gal o)
            have sdr : w5.drew.cell? ⟨w3.heap.size, 3, none⟩ = some vw ∧ w5.drew.cell? ⟨nb, 0, none⟩ = some (.int .i64 x) ∧ w5.drew.cell? ⟨nb, 1, none⟩ = some (.int .i64 y) ∧ w5.drew.cell? ⟨nb, 2, none⟩ = some (.int .i64 z) ∧ w5.drew.cell? ⟨nb, 3, none⟩ = some (.int .i64 d) := ⟨k2, e0, e1, e2, e3⟩
            have sal : ((w5.alloc (.cells #[.int .i64 x, .int .i64 y, .int .i64 z, .int .i64 d] 47)).drew).cell? ⟨w3.heap.size, 3, none⟩ = some vw ∧ ((w5.alloc (.cells #[.int .i64 x, .int .i64 y, .int .i64 z, .int .i64 d] 47)).drew).cell? ⟨nb, 0, none⟩ = some (.int .i64 x) ∧ ((w5.alloc (.cells #[.int .i64 x, .int .i64 y, .int .i64 z, .int .i64 d] 47)).drew).cell? ⟨nb, 1, none⟩ = some (.int .i64 y) ∧ ((w5.alloc (.cells #[.int .i64 x, .int .i64 y, .int .i64 z, .int .i64 d] 47)).drew).cell? ⟨nb, 2, none⟩ = some (.int .i64 z) ∧ ((w5.alloc (.cells #[.int .i64 x, .int .i64 y, .int .i64 z, .int .i64 d] 47)).drew).cell? ⟨nb, 3, none⟩ = some (.int .i64 d) := ⟨hR6.c3, (gal 0).trans e0, (gal 1).trans e1, (gal 2).trans e2, (gal 3).trans e3⟩
            have sap : wa.cell? ⟨w3.heap.size, 3, none⟩ = some vw ∧ wa.cell? ⟨nb, 0, none⟩ = some (.int .i64 x) ∧ wa.cell? ⟨nb, 1, none⟩ = some (.int .i64 y) ∧ wa.cell? ⟨nb, 2, none⟩ = some (.int .i64 z) ∧ wa.cell? ⟨nb, 3, none⟩ = some (.int .i64 d) := ⟨k2a, (ga 0).trans e0, (ga 1).trans e1, (ga 2).trans e2, (ga 3).trans e3⟩
            have hB6 : Below w3.heap.size w3 (wa.setCell ⟨w3.heap.size, 3, none⟩ (.slice gv (wires.length + 1) cv)) := ((((hB.trans (b45.mono hB.size)).trans (hAl.mono (by omega))).grown hga (by simp; omega) (fun j hj => by have := (hR6.wires.lt j hj).1; omega))).setCell (p := ⟨w3.heap.size, 3, none⟩) (Nat.le_refl _) _
            clear hR5 hR6 hRr owna hga bc bf hcn HR2 hAl gdr
            refine wp_region_popped (fun W => W.cell? ⟨w3.heap.size, 3, none⟩ = some vw ∧ W.cell? ⟨nb, 0, none⟩ = some (.int .i64 x) ∧ W.cell? ⟨nb, 1, none⟩ = some (.int .i64 y) ∧ W.cell? ⟨nb, 2, none⟩ = some (.int .i64 z) ∧ W.cell? ⟨nb, 3, none⟩ = some (.int .i64 d)) (by kernel_rfl) rfl (by decide +kernel) sdr (fun hHeld => ?_)
            simp only [List.pop_toArray, List.dropLast_cons_cons, List.dropLast_singleton, List.size_toArray, List.length_cons, List.length_nil, Nat.reduceAdd, Array.replicate_succ, Array.replicate_zero, List.push_toArray, List.nil_append, List.cons_append]
            refine wpAnyH_take (i := 0) (v := ?_) rfl (by decide +kernel) (by decide +kernel) (by decide +kernel) (fun _ _ _ h => h) (Or.inl ⟨by rfl, ?_⟩) (by assumption) ?_
            rotate_left
            · intro W hSw
              try dsimp only at hSw
              go_simp
              try with_reducible rfl
            simp only [Act.put, List.setIfInBounds_toArray, List.set_cons_zero]
            refine wpAnyH_take (i := 1) (v := ?_) rfl (by decide +kernel) (by decide +kernel) (by decide +kernel) (fun _ _ _ h => h) (Or.inl ⟨by rfl, ?_⟩) (by assumption) ?_
            rotate_left
            · intro W hSw
              try dsimp only at hSw
              go_simp
              try with_reducible rfl
            simp only [Act.put, List.setIfInBounds_toArray, List.set_cons_zero, List.set_cons_succ]
            refine wpAnyH_take (i := 2) (v := ?_) rfl (by decide +kernel) (by decide +kernel) (by decide +kernel) (fun _ _ _ h => h) (Or.inl ⟨by rfl, ?_⟩) (by assumption) ?_
            rotate_left
            · intro W hSw
              try dsimp only at hSw
              go_simp
              try with_reducible rfl
            simp only [Act.put, List.setIfInBounds_toArray, List.set_cons_zero, List.set_cons_succ]
            refine wpAnyH_take (i := 3) (v := ?_) rfl (by decide +kernel) (by decide +kernel) (by decide +kernel) (fun _ _ _ h => h) (Or.inl ⟨by rfl, ?_⟩) (by assumption) ?_
            rotate_left
            · intro W hSw
              try dsimp only at hSw
              go_simp
              try with_reducible rfl
            simp only [Act.put, List.setIfInBounds_toArray, List.set_cons_zero, List.set_cons_succ]
            refine wpAnyH_take (i := 4) (v := ?_) rfl (by decide +kernel) (by decide +kernel) (by decide +kernel) (fun _ _ _ h => h) (Or.inl ⟨by rfl, ?_⟩) (by assumption) ?_
            rotate_left
            · intro W hSw
              try dsimp only at hSw
              go_simp
              try with_reducible rfl
            simp only [Act.put, List.setIfInBounds_toArray, List.set_cons_zero, List.set_cons_succ]
            refine wpAnyH_take (i := 5) (v := ?_) rfl (by decide +kernel) (by decide +kernel) (by decide +kernel) (fun _ _ _ h => h) (Or.inl ⟨by rfl, ?_⟩) (by assumption) ?_
            rotate_left
            · intro W hSw
              try dsimp only at hSw
              go_simp
              try with_reducible rfl
            simp only [Act.put, List.setIfInBounds_toArray, List.set_cons_zero, List.set_cons_succ]
            refine wpAnyH_take (i := 6) (v := ?_) rfl (by decide +kernel) (by decide +kernel) (by decide +kernel) (fun _ _ _ h => h) (Or.inl ⟨by rfl, ?_⟩) (by assumption) ?_
            rotate_left
            · intro W hSw
              try dsimp only at hSw
              go_simp
              try with_reducible rfl
            simp only [Act.put, List.setIfInBounds_toArray, List.set_cons_zero, List.set_cons_succ]
            refine wpAnyH_take (i := 7) (v := ?_) rfl (by decide +kernel) (by decide +kernel) (by decide +kernel) (fun _ _ _ h => h) (Or.inl ⟨by rfl, ?_⟩) (by assumption) ?_
            rotate_left
            · intro W hSw
              try dsimp only at hSw
              go_simp
              try with_reducible rfl
            simp only [Act.put, List.setIfInBounds_toArray, List.set_cons_zero, List.set_cons_succ]
            refine wpAnyH_take (i := 8) (v := ?_) rfl (by decide +kernel) (by decide +kernel) (by decide +kernel) (fun _ _ _ h => h) (Or.inl ⟨by rfl, ?_⟩) (by assumption) ?_
            rotate_left
            · intro W hSw
              try dsimp only at hSw
              go_simp
              try with_reducible rfl
            simp only [Act.put, List.setIfInBounds_toArray, List.set_cons_zero, List.set_cons_succ]
            refine wpAnyH_take (i := 9) (v := ?_) rfl (by decide +kernel) (by decide +kernel) (by decide +kernel) (fun _ _ _ h => h) (Or.inl ⟨by rfl, ?_⟩) (by assumption) ?_
            rotate_left
            · intro W hSw
              try dsimp only at hSw
              go_simp
              try with_reducible rfl
            simp only [Act.put, List.setIfInBounds_toArray, List.set_cons_zero, List.set_cons_succ]
            refine wpAnyH_take (i := 10) (v := ?_) rfl (by decide +kernel) (by decide +kernel) (by decide +kernel) (fun _ _ _ h => h) (Or.inl ⟨by rfl, ?_⟩) (by assumption) ?_
            rotate_left
            · intro W hSw
              try dsimp only at hSw
              go_simp
              try with_reducible rfl
            simp only [Act.put, List.setIfInBounds_toArray, List.set_cons_zero, List.set_cons_succ]
            refine wpAnyH_take (i := 11) (v := ?_) rfl (by decide +kernel) (by decide +kernel) (by decide +kernel) (fun _ _ _ h => h) (Or.inl ⟨by rfl, ?_⟩) (by assumption) ?_
            rotate_left
            · intro W hSw
              try dsimp only at hSw
              go_simp
              try with_reducible rfl
            simp only [Act.put, List.setIfInBounds_toArray, List.set_cons_zero, List.set_cons_succ]
            refine wpAnyH_take (i := 12) (v := ?_) rfl (by decide +kernel) (by decide +kernel) (by decide +kernel) (fun _ _ _ h => h) (Or.inl ⟨by rfl, ?_⟩) (by assumption) ?_
            rotate_left
            · intro W hSw
              try dsimp only at hSw
              go_simp
              try with_reducible rfl
            simp only [Act.put, List.setIfInBounds_toArray, List.set_cons_zero, List.set_cons_succ]
            refine wpAnyH_take (i := 13) (v := ?_) rfl (by decide +kernel) (by decide +kernel) (by decide +kernel) (fun _ _ _ h => h) (Or.inl ⟨by rfl, ?_⟩) (by assumption) ?_
            rotate_left
            · intro W hSw
              try dsimp only at hSw
              go_simp
              try with_reducible rfl
            simp only [Act.put, List.setIfInBounds_toArray, List.set_cons_zero, List.set_cons_succ]
            refine wpAnyH_take (i := 14) (v := ?_) rfl (by decide +kernel) (by decide +kernel) (by decide +kernel) (fun _ _ _ h => h) (Or.inl ⟨by rfl, ?_⟩) (by assumption) ?_
            rotate_left
            · intro W hSw
              try dsimp only at hSw
              go_simp
              try with_reducible rfl
            simp only [Act.put, List.setIfInBounds_toArray, List.set_cons_zero, List.set_cons_succ]
            refine wpAnyH_ready (rs := [15]) (by decide +kernel) (by simp) ?_
            refine AllReadyH.cons (o := _) rfl (fun K hK => ?_) AllReadyH.nil
            go_simp
            refine hK.out _ _ sal (fun hHeld => ?_)
            clear hK K
            refine wpAnyH_ready (rs := [16]) (by decide +kernel) (by simp) ?_
            refine AllReadyH.cons (o := _) rfl (fun K hK => ?_) AllReadyH.nil
            refine step_append_eq rfl (.tmp 130) (.tmp 144) 24 rfl vw (.slice (some ⟨w5.heap.size, 0, none⟩) 1 1) rfl rfl (.slice gv (wires.length + 1) cv) wa hra ?_
            refine hK.out _ _ sap (fun hHeld => ?_)
            clear hK K
            simp only [Act.put, List.setIfInBounds_toArray, List.set_cons_zero, List.set_cons_succ]
            refine wpAnyH_take (i := 17) (v := ?_) rfl (by decide +kernel) (by decide +kernel) (by decide +kernel) (fun _ _ _ h => h) (Or.inl ⟨by rfl, ?_⟩) (by assumption) ?_
            rotate_left
            · intro W hSw
              try dsimp only at hSw
              go_simp
              try with_reducible rfl
            simp only [Act.put, List.setIfInBounds_toArray, List.set_cons_zero, List.set_cons_succ]
            refine wpAnyH_done (by decide +kernel) ?_ _
            show Oper.wp _ _ _ _ _ _
            go_simp
            go_wp2
            go_roundw
            case rel => exact ⟨k + 1, wires ++ [(x, y, z, d)], _, by omega, by simp; omega, by go_num, HF, hB6, HRE.out⟩
            case measure => simp [intOf]; omega
          · have HF : Hid (takeF wireOf (r.drop k0) = (wires, r.drop k)) := HNO.out (wireOf_no hbd (Or.inr hl))
            clear HNO HYS hw hn hbd
            unfold wWire at qc qn
            go_wp2_with (first
              | (go_at_call 28; refine qc.mono ?_; rintro e w4 ⟨⟨g4, cap4, rfl, hst, hg4, hgc4⟩, b4⟩; clear qc)
              | (go_at_call 29; refine (qn _ _ hst).mono ?_; rintro e w5 ⟨⟨ao, nn, cap5, rfl, hnl, hat⟩, b5⟩; clear qn; have hg5 : w5.cell? ⟨g4, 0, none⟩ = some (.string ⟨#[119, 105, 114, 101]⟩) := (b5.cell (p := ⟨g4, 0, none⟩) hg4).trans hgc4; have b45 := b4.trans (b5.mono b4.size); have hnb : ((nn : Int) == 4) = false := (by simp; omega); clear b4 b5 hst hgc4 hat hnl))
            go_meet
            exact ⟨k, wires, vw, by omega, rfl, HF, hB.trans (b45.mono hB.size), HR2.out _ b45⟩
        · have HF : Hid (takeF wireOf (r.drop k0) = (wires, r.drop k)) := HNO.out (wireOf_no hbd (Or.inl hp))
          have hpb : (p == [119, 105, 114, 101]) = false := by simpa [wWire] using hp
          clear HNO HYS hw hn hbd hp
          go_wp2_with (first
            | (go_at_call 28; refine qc.mono ?_; rintro e w4 ⟨⟨g4, cap4, rfl, hst, hg4, hgc4⟩, b4⟩; clear qc)
            | (go_at_call 29; refine (qn _ _ hst).mono ?_; rintro e w5 ⟨⟨ao, nn, cap5, rfl, hnl, hat⟩, b5⟩; clear qn; have hg5 : w5.cell? ⟨g4, 0, none⟩ = some (.string ⟨p.toArray⟩) := (b5.cell (p := ⟨g4, 0, none⟩) hg4).trans hgc4; have b45 := b4.trans (b5.mono b4.size); clear b4 b5 hst hgc4 hat hnl))
          go_meet
          exact ⟨k, wires, vw, by omega, rfl, HF, hB.trans (b45.mono hB.size), HR2.out _ b45⟩
    · obtain rfl : k = r.length := by omega
      go_wp2
      go_meet
      exact ⟨r.length, wires, vw, Nat.le_refl _, rfl, by show _ = _; rw [HT.out]; simp [takeF], hB, hR⟩
  case rest =>
  obtain ⟨k1, wires, vw, hk1, rfl, HT1, hB1, hR1⟩ := hcut
  have HPO : Hid (∀ cs, roomsOf [] (r.drop k1) = some cs → planP t.data.toList = planR (some ⟨cs, n, spans, wires⟩)) := fun cs h => by rw [HR.out, planOf, HFR.out]; simp only [HT0.out, HT1.out, h]
  have HPN : Hid (roomsOf [] (r.drop k1) = none → planP t.data.toList = (PD.none, 2)) := fun h => by rw [HR.out, planOf, HFR.out]; simp only [HT0.out, HT1.out, h]; rfl
  clear HT0 HT1 HR HFR hB0 hR0
  rename World => wx2
  go_wp2
  go_loopw [9] (fun i wr => ∃ (k : Nat) (cs : List (List O3)) (vc : Value) (us : List Value), k ≤ r.length ∧ cs.length ≤ k ∧ (∀ c ∈ cs, c.length ≤ k) ∧ i = .int .i64 ((k : Int) + 1) ∧ Hid (roomsOf [] (r.drop k1) = roomsOf cs (r.drop k)) ∧ Below w3.heap.size w3 wr ∧ RP wr (w3.heap.size + 1) w3.heap.size ⟨cs, n, spans, wires⟩ vc vs vw us) (fun i _ => r.length + 1 - (intOf i).toNat)
  case atStart => exact ⟨k1, [], _, [], hk1, Nat.zero_le _, fun c hc => by simp at hc, rfl, rfl, hB1, hR1⟩
  case round =>
  clear hB1 hR1
  obtain ⟨k, cs, vc, us, hk, hck, hcl, rfl, HT, hB, hR⟩ := hrel
  have HCL : Hid (∀ c ∈ cs, c.length ≤ k) := hcl
  clear hcl
  by_cases hkl : k < r.length
  · have hki : (k : Int) + 1 < (r.length : Int) + 1 := by omega
    obtain ⟨v, hv⟩ : ∃ v, r[k]? = some v := ⟨r[k], List.getElem?_eq_getElem hkl⟩
    have d0 := HLN.out wr hB k v hv
    have hdr : r.drop k = v :: r.drop (k + 1) := by
      rw [List.drop_eq_getElem_cons hkl]
      rw [List.getElem?_eq_getElem hkl] at hv
      rw [Option.some.inj hv]
    have hvl := HPL.out v (List.mem_of_getElem? hv)
    have HT2 : Hid (roomsOf [] (r.drop k1) = roomsOf cs (v :: r.drop (k + 1))) := by show _ = _; rw [HT.out, hdr]
    clear hv hdr HT
    by_cases hvr : v = wRoom
    · subst hvr
      have HN : Hid (roomsOf [] (r.drop k1) = roomsOf (cs ++ [[]]) (r.drop (k + 1))) := by show _ = _; rw [HT2.out, roomsOf, if_pos rfl]
      unfold wRoom at d0
      clear HT2
      have m0 := hR.c0
      have hsz : w3.heap.size + 1 ≤ wr.heap.size := hR.le
      have hbw : w3.heap.size < wr.heap.size := by omega
      have HR2 : Hid (RP wr (w3.heap.size + 1) w3.heap.size ⟨cs, n, spans, wires⟩ vc vs vw us) := hR
      obtain ⟨jj, hj, hy0, hy1, hy2⟩ := info_parts infoOps
      go_wp2_with (at_builtin; refine wpList_append_own _ rfl _ _ 22 rfl (w3.heap.size + 1) 49 jj (.slice none 0 0) 1 24 Tryz.underlying22 hj hy0 hy1 hy2 rfl (by decide) _ _ _ rfl (HR2.out.code.alloc _) ⟨wr.heap.size, 0, none⟩ 1 1 [.slice none 0 0] rfl rfl ?c1A ?c2A ?c3A ?c4A ?c5A ?_)
      case c1A => exact one_new_at rfl _ _
      case c2A => intro x hx; simp at hx; subst hx; rfl
      case c3A => unfold maxLen; omega
      case c4A => omega
      case c5A => simp; omega
      intro va wa owna hga _
      have hR6 := HR2.out.below ((Below.refl _ wr).alloc (Nat.le_refl _) (.cells #[.slice none 0 0] 49))
      obtain ⟨gv, cv, rfl⟩ := own4_form owna
      have HRE := hR6.room hga owna
      obtain ⟨bc, bf, _⟩ := hR6.box hga (fun j hj => (hR6.code.lt j hj).1)
      have k0a := (bc 0).trans hR6.c0
      have f0a := (bf 0).trans hR6.f0
      have hB6 := (((hB.alloc hB.size (.cells #[.slice none 0 0] 49)).grown hga (by simp; omega) (fun j hj => by have := (hR6.code.lt j hj).1; omega))).setCell (p := ⟨w3.heap.size, 0, none⟩) (Nat.le_refl _) (.slice gv (cs.length + 1) cv)
      have HRE2 : Hid (RP (wa.setCell ⟨w3.heap.size, 0, none⟩ (.slice gv (cs.length + 1) cv)) (w3.heap.size + 1) w3.heap.size ⟨cs ++ [[]], n, spans, wires⟩ (.slice gv (cs.length + 1) cv) vs vw (us ++ [.slice none 0 0])) := HRE
      clear hR6 HR2 hR HRE owna hga bc bf
      go_wp2
      go_roundw
      case rel => exact ⟨k + 1, cs ++ [[]], _, _, by omega, by simp; omega, fun c hc => by rw [List.mem_append] at hc; rcases hc with hc | hc; have := HCL.out c hc; omega; simp at hc; subst hc; simp, by go_num, HN, hB6, HRE2.out⟩
      case measure => simp [intOf]; omega
    · have hvb : (v == [114, 111, 111, 109]) = false := by simpa [wRoom] using hvr
      have q1 := rop_any ⟨v.toArray⟩ wr hvl
      rw [show (⟨v.toArray⟩ : ByteArray).data.toList = v from rfl] at q1
      have HRr : Hid (RP wr (w3.heap.size + 1) w3.heap.size ⟨cs, n, spans, wires⟩ vc vs vw us) := hR
      cases ho : opRead (v ++ [10]) with
      | none =>
        have HN : Hid (planP t.data.toList = (PD.none, 2)) := HPN.out (by rw [HT2.out, roomsOf, if_neg hvr, ho])
        rw [ho] at q1
        unfold opRes at q1
        clear HT2 hvr ho hR
        obtain ⟨vg, vcc, rfl⟩ := own4_form HRr.out.code
        go_wp2_with (go_at_call 30; refine q1.mono ?_; rintro e w5 ⟨rfl, b5⟩; clear q1; have hR5 := HRr.out.below b5; have m0 := hR5.c0; have hx5 := HX.out w5 (hB.trans (b5.mono hB.size)); have hx6 := hx5.step ((Below.refl _ _).alloc (Nat.le_refl _) (.cells #[.int .i64 0, .int .i64 0, .int .i64 0] 73)); have hbw : w3.heap.size < w5.heap.size := (by have := hR5.le; omega); obtain ⟨k0, k1', k2, k3⟩ := hx5.cs; obtain ⟨j0, j1, j2, j3⟩ := hx5.f; have hrw : w.heap.size < w5.heap.size := (by have := hx5.size; omega))
        refine bodyPost_ret (v := .tuple #[.agg #[.slice none 0 0, .int .i64 0, .slice none 0 0, .slice none 0 0], .int .i64 2]) ?_ rfl (rdp_none HN.out (by first | exact hx6.lay _ _ _ _ | exact (hx5.lay _ _ _ _).alloc (by simp; omega) _))
        simp [results, Tryz.results10, go_sem, k0, k1', k2, k3, hrw]
      | some o =>
        rw [ho] at q1
        unfold opRes at q1
        simp only at q1
        have hstep : roomsOf cs (v :: r.drop (k + 1)) = (match onto cs o with | none => none | some a => roomsOf a (r.drop (k + 1))) := by
          rw [roomsOf, if_neg hvr, ho]
          rfl
        rcases Nat.eq_zero_or_pos cs.length with hc0 | hc0
        · obtain rfl := List.eq_nil_of_length_eq_zero hc0
          have HN : Hid (planP t.data.toList = (PD.none, 2)) := HPN.out (by rw [HT2.out, hstep, onto_nil])
          clear HT2 hvr ho hR hstep hc0
          obtain ⟨vg, vcc, rfl⟩ := own4_form HRr.out.code
          simp only [List.length_nil] at *
          go_wp2_with (go_at_call 30; refine q1.mono ?_; rintro e w5 ⟨rfl, b5⟩; clear q1; have hR5 := HRr.out.below b5; have m0 := hR5.c0; have hx5 := HX.out w5 (hB.trans (b5.mono hB.size)); have hx6 := hx5.step ((Below.refl _ _).alloc (Nat.le_refl _) (.cells #[.int .i64 o.1, .int .i64 o.2.1, .int .i64 o.2.2] 73)); have hbw : w3.heap.size < w5.heap.size := (by have := hR5.le; omega); obtain ⟨k0, k1', k2, k3⟩ := hx5.cs; obtain ⟨j0, j1, j2, j3⟩ := hx5.f; have hrw : w.heap.size < w5.heap.size := (by have := hx5.size; omega))
          refine bodyPost_ret (v := .tuple #[.agg #[.slice none 0 0, .int .i64 0, .slice none 0 0, .slice none 0 0], .int .i64 2]) ?_ rfl (rdp_none HN.out (by first | exact hx6.lay _ _ _ _ | exact (hx5.lay _ _ _ _).alloc (by simp; omega) _))
          simp [results, Tryz.results10, go_sem, k0, k1', k2, k3, hrw]
        · obtain ⟨L, hL⟩ : ∃ L, cs.length = L + 1 := ⟨cs.length - 1, by omega⟩
          obtain ⟨c, hcL⟩ : ∃ c, cs[L]? = some c := ⟨cs[L]'(by omega), List.getElem?_eq_getElem _⟩
          have hul := HRr.out.ulen
          simp only at hul
          obtain ⟨u', huL⟩ : ∃ x, us[L]? = some x := ⟨us[L]'(by omega), List.getElem?_eq_getElem _⟩
          have HN : Hid (roomsOf [] (r.drop k1) = roomsOf (cs.set L (c ++ [o])) (r.drop (k + 1))) := by show _ = _; rw [HT2.out, hstep, onto_set hL.symm hcL o]
          have hrow := HRr.out.rows L u' c huL hcL
          obtain ⟨ua, uc, rfl⟩ := own4_form hrow
          obtain ⟨gc, capc, rfl⟩ : ∃ g cap, vc = .slice (some ⟨g, 0, none⟩) cs.length cap := by
            have hcd := HRr.out.code.2
            simp only at hcd
            rcases hcd with ⟨_, h0⟩ | ⟨g, cap, cur, h1, _⟩
            · omega
            · exact ⟨g, cap, h1⟩
          have hcl2 := HCL.out c (List.mem_of_getElem? hcL)
          clear HT2 hvr ho hR hstep hrow HPN
          go_upto_region 30 with (go_at_call 30; refine q1.mono ?_; rintro e w5 ⟨rfl, b5⟩; clear q1; have m0 := (HRr.out.below b5).c0; rw [hL] at m0; have hbw : w3.heap.size < w5.heap.size := (by have := (HRr.out.below b5).le; omega))
          have hR5 := HRr.out.below b5
          have hs5 := b5.size
          have hpbw : w3.heap.size + 1 ≤ wr.heap.size := HRr.out.le
          have hA1 : Below w5.heap.size w5 (w5.alloc (.cells #[.int .i64 o.1, .int .i64 o.2.1, .int .i64 o.2.2] 73)) := (Below.refl _ _).alloc (Nat.le_refl _) _
          have hR6 := hR5.below hA1
          have hA2 : Below (w5.alloc (.cells #[.int .i64 o.1, .int .i64 o.2.1, .int .i64 o.2.2] 73)).heap.size (w5.alloc (.cells #[.int .i64 o.1, .int .i64 o.2.1, .int .i64 o.2.2] 73)) (((w5.alloc (.cells #[.int .i64 o.1, .int .i64 o.2.1, .int .i64 o.2.2] 73)).alloc (.cells #[.int .i64 o.1, .int .i64 o.2.1, .int .i64 o.2.2] 73)).drew) := ((Below.refl _ _).alloc (Nat.le_refl _) _).drew
          have hR7 := hR6.below hA2
          have hub : ∀ j, (Value.slice ua c.length uc).ownBlock = some j → j < wr.heap.size := fun j hj => ((HRr.out.rows L _ c huL hcL).lt j hj).2
          obtain ⟨jj, hj, hy0, hy1, hy2⟩ := info_parts infoOpE
          obtain ⟨va, wa, hra, owna, hga, hat⟩ := run_append_at (P := Tryz.prog) (((w5.alloc (.cells #[.int .i64 o.1, .int .i64 o.2.1, .int .i64 o.2.2] 73)).alloc (.cells #[.int .i64 o.1, .int .i64 o.2.1, .int .i64 o.2.2] 73)).drew) 49 49 (w3.heap.size + 1) 73 jj (.agg #[.int .i64 0, .int .i64 0, .int .i64 0]) 3 24 Tryz.underlying49 hj hy0 hy1 hy2 rfl (by decide) (.slice ua c.length uc) c.length (cells3 c) (hR7.rows L _ c huL hcL) ⟨w5.heap.size + 1, 0, none⟩ 1 1 [.int .i64 o.1, .int .i64 o.2.1, .int .i64 o.2.2] rfl (by have := sp_new (w5.alloc (.cells #[.int .i64 o.1, .int .i64 o.2.1, .int .i64 o.2.2] 73)) (.int .i64 o.1) (.int .i64 o.2.1) (.int .i64 o.2.2) 73; simpa using this) (three_one o.1 o.2.1 o.2.2) (by unfold maxLen; omega) (by omega) hR7.le
          obtain ⟨gv, cv, rfl⟩ := own4_form owna
          have HRE : Hid (RP (wa.setCell ⟨gc, L, none⟩ (.slice gv (c.length + 1) cv)) (w3.heap.size + 1) w3.heap.size ⟨cs.set L (c ++ [o]), n, spans, wires⟩ (.slice (some ⟨gc, 0, none⟩) cs.length capc) vs vw (us.set L (.slice gv (c.length + 1) cv))) := hR7.op (o := o) hL.symm huL hcL hga owna hat
          obtain ⟨bc, bf, _⟩ := hR7.box hga (fun j hj => ((hR7.rows L _ c huL hcL).lt j hj).1)
          have codeA := hR7.code.kept hga (own_apart (by decide) hR7.code (hR7.rows L _ c huL hcL))
          have kca : wa.cell? ⟨gc, L, none⟩ = some (.slice ua c.length uc) := (codeA.cellAt L (show L < cs.length * 1 by omega)).trans huL
          have fca : wa.frozen? ⟨gc, L, none⟩ = false := codeA.frozenAt L
          have kc7 : (((w5.alloc (.cells #[.int .i64 o.1, .int .i64 o.2.1, .int .i64 o.2.2] 73)).alloc (.cells #[.int .i64 o.1, .int .i64 o.2.1, .int .i64 o.2.2] 73)).drew).cell? ⟨gc, L, none⟩ = some (.slice ua c.length uc) := (hR7.code.cellAt L (show L < cs.length * 1 by omega)).trans huL
          have kc6 : (w5.alloc (.cells #[.int .i64 o.1, .int .i64 o.2.1, .int .i64 o.2.2] 73)).drew.cell? ⟨gc, L, none⟩ = some (.slice ua c.length uc) := (hR6.code.cellAt L (show L < cs.length * 1 by omega)).trans huL
          have hgcb : w3.heap.size + 1 ≤ gc ∧ gc < w5.heap.size := by have := hR5.code.lt gc rfl; exact this
          have ob6 : ∀ i v, [Value.int .i64 o.1, .int .i64 o.2.1, .int .i64 o.2.2][i]? = some v → (w5.alloc (.cells #[.int .i64 o.1, .int .i64 o.2.1, .int .i64 o.2.2] 73)).cell? ⟨w5.heap.size, i, none⟩ = some v := fun i v hv => by have := sp_new w5 (.int .i64 o.1) (.int .i64 o.2.1) (.int .i64 o.2.2) 73 i v hv; rwa [Addr.add_lit, Nat.zero_add] at this
          have ob7 : ∀ i, (((w5.alloc (.cells #[.int .i64 o.1, .int .i64 o.2.1, .int .i64 o.2.2] 73)).alloc (.cells #[.int .i64 o.1, .int .i64 o.2.1, .int .i64 o.2.2] 73)).drew).cell? ⟨w5.heap.size, i, none⟩ = (w5.alloc (.cells #[.int .i64 o.1, .int .i64 o.2.1, .int .i64 o.2.2] 73)).cell? ⟨w5.heap.size, i, none⟩ := fun i => hA2.cell (p := ⟨w5.heap.size, i, none⟩) (by simp)
          have oba : ∀ i, wa.cell? ⟨w5.heap.size, i, none⟩ = (w5.alloc (.cells #[.int .i64 o.1, .int .i64 o.2.1, .int .i64 o.2.2] 73)).cell? ⟨w5.heap.size, i, none⟩ := fun i => (World.cell?_of_block (a := ⟨w5.heap.size, i, none⟩) (hga.block w5.heap.size (by simp; omega) (fun e => by have := hub _ e.symm; omega))).trans (ob7 i)
          have sdr : (w5.alloc (.cells #[.int .i64 o.1, .int .i64 o.2.1, .int .i64 o.2.2] 73)).drew.cell? ⟨w3.heap.size, 0, none⟩ = some (.slice (some ⟨gc, 0, none⟩) (L + 1) capc) ∧ (w5.alloc (.cells #[.int .i64 o.1, .int .i64 o.2.1, .int .i64 o.2.2] 73)).drew.cell? ⟨gc, L, none⟩ = some (.slice ua c.length uc) ∧ (w5.alloc (.cells #[.int .i64 o.1, .int .i64 o.2.1, .int .i64 o.2.2] 73)).drew.cell? ⟨w5.heap.size, 0, none⟩ = some (.int .i64 o.1) ∧ (w5.alloc (.cells #[.int .i64 o.1, .int .i64 o.2.1, .int .i64 o.2.2] 73)).drew.cell? ⟨w5.heap.size, 1, none⟩ = some (.int .i64 o.2.1) ∧ (w5.alloc (.cells #[.int .i64 o.1, .int .i64 o.2.1, .int .i64 o.2.2] 73)).drew.cell? ⟨w5.heap.size, 2, none⟩ = some (.int .i64 o.2.2) := ⟨by have := hR6.c0; rw [hL] at this; exact this, kc6, ob6 0 _ rfl, ob6 1 _ rfl, ob6 2 _ rfl⟩
          have sal : (((w5.alloc (.cells #[.int .i64 o.1, .int .i64 o.2.1, .int .i64 o.2.2] 73)).alloc (.cells #[.int .i64 o.1, .int .i64 o.2.1, .int .i64 o.2.2] 73)).drew).cell? ⟨w3.heap.size, 0, none⟩ = some (.slice (some ⟨gc, 0, none⟩) (L + 1) capc) ∧ (((w5.alloc (.cells #[.int .i64 o.1, .int .i64 o.2.1, .int .i64 o.2.2] 73)).alloc (.cells #[.int .i64 o.1, .int .i64 o.2.1, .int .i64 o.2.2] 73)).drew).cell? ⟨gc, L, none⟩ = some (.slice ua c.length uc) ∧ (((w5.alloc (.cells #[.int .i64 o.1, .int .i64 o.2.1, .int .i64 o.2.2] 73)).alloc (.cells #[.int .i64 o.1, .int .i64 o.2.1, .int .i64 o.2.2] 73)).drew).cell? ⟨w5.heap.size, 0, none⟩ = some (.int .i64 o.1) ∧ (((w5.alloc (.cells #[.int .i64 o.1, .int .i64 o.2.1, .int .i64 o.2.2] 73)).alloc (.cells #[.int .i64 o.1, .int .i64 o.2.1, .int .i64 o.2.2] 73)).drew).cell? ⟨w5.heap.size, 1, none⟩ = some (.int .i64 o.2.1) ∧ (((w5.alloc (.cells #[.int .i64 o.1, .int .i64 o.2.1, .int .i64 o.2.2] 73)).alloc (.cells #[.int .i64 o.1, .int .i64 o.2.1, .int .i64 o.2.2] 73)).drew).cell? ⟨w5.heap.size, 2, none⟩ = some (.int .i64 o.2.2) := ⟨by have := hR7.c0; rw [hL] at this; exact this, kc7, (ob7 0).trans (ob6 0 _ rfl), (ob7 1).trans (ob6 1 _ rfl), (ob7 2).trans (ob6 2 _ rfl)⟩
          have sap : wa.cell? ⟨w3.heap.size, 0, none⟩ = some (.slice (some ⟨gc, 0, none⟩) (L + 1) capc) ∧ wa.cell? ⟨gc, L, none⟩ = some (.slice ua c.length uc) ∧ wa.cell? ⟨w5.heap.size, 0, none⟩ = some (.int .i64 o.1) ∧ wa.cell? ⟨w5.heap.size, 1, none⟩ = some (.int .i64 o.2.1) ∧ wa.cell? ⟨w5.heap.size, 2, none⟩ = some (.int .i64 o.2.2) := ⟨by have := (bc 0).trans hR7.c0; rw [hL] at this; exact this, kca, (oba 0).trans (ob6 0 _ rfl), (oba 1).trans (ob6 1 _ rfl), (oba 2).trans (ob6 2 _ rfl)⟩
          have hB6 : Below w3.heap.size w3 (wa.setCell ⟨gc, L, none⟩ (.slice gv (c.length + 1) cv)) := (((((hB.trans (b5.mono hB.size)).trans (hA1.mono (by omega))).trans (hA2.mono (by simp; omega))).grown hga (by simp; omega) (fun j hj => by have := ((hR7.rows L _ c huL hcL).lt j hj).1; omega))).setCell (p := ⟨gc, L, none⟩) (by show w3.heap.size ≤ gc; omega) _
          have hcl3 : ∀ d ∈ cs.set L (c ++ [o]), d.length ≤ k + 1 := fun d hd => by
            rcases List.mem_or_eq_of_mem_set hd with h1 | h1
            · have := HCL.out d h1; omega
            · subst h1; simp; omega
          have hLL : (L : Int) < (L : Int) + 1 := by omega
          have HC3 : Hid (∀ d ∈ cs.set L (c ++ [o]), d.length ≤ k + 1) := hcl3
          clear hR5 hR6 hR7 owna hga bc bf codeA kc7 kc6 ob6 ob7 oba hA1 hA2 hat hcl3 hub
          refine wp_region_popped (fun W => W.cell? ⟨w3.heap.size, 0, none⟩ = some (.slice (some ⟨gc, 0, none⟩) (L + 1) capc) ∧ W.cell? ⟨gc, L, none⟩ = some (.slice ua c.length uc) ∧ W.cell? ⟨w5.heap.size, 0, none⟩ = some (.int .i64 o.1) ∧ W.cell? ⟨w5.heap.size, 1, none⟩ = some (.int .i64 o.2.1) ∧ W.cell? ⟨w5.heap.size, 2, none⟩ = some (.int .i64 o.2.2)) (by kernel_rfl) rfl (by decide +kernel) sdr (fun hHeld => ?_)
          simp only [List.pop_toArray, List.dropLast_cons_cons, List.dropLast_singleton, List.size_toArray, List.length_cons, List.length_nil, Nat.reduceAdd, Array.replicate_succ, Array.replicate_zero, List.push_toArray, List.nil_append, List.cons_append]
          refine wpAnyH_take (i := 0) (v := ?_) rfl (by decide +kernel) (by decide +kernel) (by decide +kernel) (fun _ _ _ h => h) (Or.inl ⟨by rfl, ?_⟩) (by assumption) ?_
          rotate_left
          · intro W hSw
            try dsimp only at hSw
            go_simp
            try with_reducible rfl
          simp only [Act.put, List.setIfInBounds_toArray, List.set_cons_zero]
          refine wpAnyH_take (i := 1) (v := ?_) rfl (by decide +kernel) (by decide +kernel) (by decide +kernel) (fun _ _ _ h => h) (Or.inl ⟨by rfl, ?_⟩) (by assumption) ?_
          rotate_left
          · intro W hSw
            try dsimp only at hSw
            go_simp
            try with_reducible rfl
          simp only [Act.put, List.setIfInBounds_toArray, List.set_cons_zero, List.set_cons_succ]
          refine wpAnyH_take (i := 2) (v := ?_) rfl (by decide +kernel) (by decide +kernel) (by decide +kernel) (fun _ _ _ h => h) (Or.inl ⟨by rfl, ?_⟩) (by assumption) ?_
          rotate_left
          · intro W hSw
            try dsimp only at hSw
            go_simp
            try with_reducible rfl
          simp only [Act.put, List.setIfInBounds_toArray, List.set_cons_zero, List.set_cons_succ]
          refine wpAnyH_take (i := 3) (v := ?_) rfl (by decide +kernel) (by decide +kernel) (by decide +kernel) (fun _ _ _ h => h) (Or.inl ⟨by rfl, ?_⟩) (by assumption) ?_
          rotate_left
          · intro W hSw
            try dsimp only at hSw
            go_simp
            try with_reducible rfl
          simp only [Act.put, List.setIfInBounds_toArray, List.set_cons_zero, List.set_cons_succ]
          refine wpAnyH_take (i := 4) (v := ?_) rfl (by decide +kernel) (by decide +kernel) (by decide +kernel) (fun _ _ _ h => h) (Or.inl ⟨by rfl, ?_⟩) (by assumption) ?_
          rotate_left
          · intro W hSw
            try dsimp only at hSw
            go_simp
            try with_reducible rfl
          simp only [Act.put, List.setIfInBounds_toArray, List.set_cons_zero, List.set_cons_succ]
          refine wpAnyH_take (i := 5) (v := ?_) rfl (by decide +kernel) (by decide +kernel) (by decide +kernel) (fun _ _ _ h => h) (Or.inl ⟨by rfl, ?_⟩) (by assumption) ?_
          rotate_left
          · intro W hSw
            try dsimp only at hSw
            go_simp
            try with_reducible rfl
          simp only [Act.put, List.setIfInBounds_toArray, List.set_cons_zero, List.set_cons_succ]
          refine wpAnyH_take (i := 6) (v := ?_) rfl (by decide +kernel) (by decide +kernel) (by decide +kernel) (fun _ _ _ h => h) (Or.inl ⟨by rfl, ?_⟩) (by assumption) ?_
          rotate_left
          · intro W hSw
            try dsimp only at hSw
            go_simp
            try with_reducible rfl
          simp only [Act.put, List.setIfInBounds_toArray, List.set_cons_zero, List.set_cons_succ]
          refine wpAnyH_take (i := 7) (v := ?_) rfl (by decide +kernel) (by decide +kernel) (by decide +kernel) (fun _ _ _ h => h) (Or.inl ⟨by rfl, ?_⟩) (by assumption) ?_
          rotate_left
          · intro W hSw
            try dsimp only at hSw
            go_simp
            try with_reducible rfl
          simp only [Act.put, List.setIfInBounds_toArray, List.set_cons_zero, List.set_cons_succ]
          refine wpAnyH_take (i := 8) (v := ?_) rfl (by decide +kernel) (by decide +kernel) (by decide +kernel) (fun _ _ _ h => h) (Or.inl ⟨by rfl, ?_⟩) (by assumption) ?_
          rotate_left
          · intro W hSw
            try dsimp only at hSw
            go_simp
            try with_reducible rfl
          simp only [Act.put, List.setIfInBounds_toArray, List.set_cons_zero, List.set_cons_succ]
          refine wpAnyH_ready (rs := [9]) (by decide +kernel) (by simp) ?_
          refine AllReadyH.cons (o := _) rfl (fun K hK => ?_) AllReadyH.nil
          go_simp
          refine hK.out _ _ sal (fun hHeld => ?_)
          clear hK K
          refine wpAnyH_ready (rs := [10]) (by decide +kernel) (by simp) ?_
          refine AllReadyH.cons (o := _) rfl (fun K hK => ?_) AllReadyH.nil
          refine step_append_eq rfl (.tmp 192) (.tmp 194) 49 rfl (.slice ua c.length uc) (.slice (some ⟨w5.heap.size + 1, 0, none⟩) 1 1) rfl rfl (.slice gv (c.length + 1) cv) wa hra ?_
          refine hK.out _ _ sap (fun hHeld => ?_)
          clear hK K
          simp only [Act.put, List.setIfInBounds_toArray, List.set_cons_zero, List.set_cons_succ]
          refine wpAnyH_take (i := 11) (v := ?_) rfl (by decide +kernel) (by decide +kernel) (by decide +kernel) (fun _ _ _ h => h) (Or.inl ⟨by rfl, ?_⟩) (by assumption) ?_
          rotate_left
          · intro W hSw
            try dsimp only at hSw
            go_simp
            try with_reducible rfl
          simp only [Act.put, List.setIfInBounds_toArray, List.set_cons_zero, List.set_cons_succ]
          refine wpAnyH_done (by decide +kernel) ?_ _
          show Oper.wp _ _ _ _ _ _
          go_simp
          go_wp2
          go_roundw
          case rel => exact ⟨k + 1, cs.set L (c ++ [o]), _, _, by omega, by simp; omega, HC3.out, by go_num, HN, hB6, HRE.out⟩
          case measure => simp [intOf]; omega
  obtain rfl : k = r.length := by omega
  have HE : Hid (planP t.data.toList = planR (some ⟨cs, n, spans, wires⟩)) := HPO.out cs (by rw [HT.out]; simp [roomsOf])
  clear HPO HPN HT HCL HLN HPL
  have m0 := hR.c0
  have m1 := hR.c1
  have m2 := hR.c2
  have m3 := hR.c3
  have hq := refplan_any ⟨cs, n, spans, wires⟩ vc vs vw wr hR.pln
  have HRr : Hid (RP wr (w3.heap.size + 1) w3.heap.size ⟨cs, n, spans, wires⟩ vc vs vw us) := hR
  obtain ⟨vg, vcc, rfl⟩ := own4_form HRr.out.code
  obtain ⟨sg, scc, rfl⟩ := own4_form HRr.out.spans
  obtain ⟨wg, wcc, rfl⟩ := own4_form HRr.out.wires
  unfold plV at hq
  simp only at hq m1
  have hrb : w.heap.size < w3.heap.size := by have := (HX.out w3 (Below.refl _ _)).size; omega
  clear hR
  by_cases hz : plchk ⟨cs, n, spans, wires⟩ = 0
  · have HF : Hid (planP t.data.toList = (⟨cs, n, spans, wires⟩, 0)) := by show _ = _; rw [HE.out, planR_ok hz]
    rw [hz] at hq
    clear HE hz
    go_wp2_with (go_at_call 5; refine hq.mono ?_; rintro e w5 ⟨rfl, b5⟩; clear hq; have hR5 := HRr.out.below b5; have n0 := hR5.c0; have n1 := hR5.c1; have n2 := hR5.c2; have n3 := hR5.c3; simp only at n0 n1 n2 n3; have hx5 := HX.out w5 (hB.trans (b5.mono hB.size)); obtain ⟨k0, k1', k2, k3⟩ := hx5.cs; obtain ⟨j0, j1, j2, j3⟩ := hx5.f)
    have hfin := (((hR5.other (a := ⟨w.heap.size, 0, none⟩) hrb (.slice vg cs.length vcc)).other (a := ⟨w.heap.size, 1, none⟩) hrb (.int .i64 n)).other (a := ⟨w.heap.size, 2, none⟩) hrb (.slice sg spans.length scc)).other (a := ⟨w.heap.size, 3, none⟩) hrb (.slice wg wires.length wcc)
    refine bodyPost_ret (v := .tuple #[.agg #[.slice vg cs.length vcc, .int .i64 n, .slice sg spans.length scc, .slice wg wires.length wcc], .int .i64 0]) ?_ rfl ?_
    · simp [results, Tryz.results10, go_sem, k0, k1', k2, k3]
    · rw [HF.out]
      exact ⟨_, _, _, rfl, hfin.pln, hx5.lay _ _ _ _⟩
  · have HF : Hid (planP t.data.toList = (PD.none, plchk ⟨cs, n, spans, wires⟩)) := by show _ = _; rw [HE.out, planR_bad hz]
    generalize plchk ⟨cs, n, spans, wires⟩ = z at hq HF hz
    have hzb : (z == 0) = false := by simpa using hz
    clear HE hz
    go_wp2_with (go_at_call 5; refine hq.mono ?_; rintro e w5 ⟨rfl, b5⟩; clear hq; have hx5 := HX.out w5 (hB.trans (b5.mono hB.size)); obtain ⟨k0, k1', k2, k3⟩ := hx5.cs; obtain ⟨j0, j1, j2, j3⟩ := hx5.f)
    refine bodyPost_ret (v := .tuple #[.agg #[.slice none 0 0, .int .i64 0, .slice none 0 0, .slice none 0 0], .int .i64 z]) ?_ rfl (rdp_none HF.out (hx5.lay _ _ _ _))
    simp [results, Tryz.results10, go_sem, k0, k1', k2, k3]
end Go.Proofs.YtamnfadngbbaeacGreatDoor
namespace Go.Proofs.YtamnfadngbbaeacGreatDoor
open Go.RowKit

theorem readplan_any (t : ByteArray) (w : World) (hs : t.size ≤ 1099511627776) :
    Calls Tryz.prog 10 #[.string t] w (RdP w (planP t.data.toList)) := by
  obtain ⟨ps, q, hc, _, _⟩ := cut_lines t.data.toList [] (by simp)
  by_cases hq : q = []
  · subst hq
    cases ps with
    | nil => exact readplan_empty t w hs hc
    | cons u r =>
      obtain ⟨p, pps, hw⟩ := words_of u
      cases hn : numsOf pps with
      | none => exact readplan_first_nums t u r p pps w hs hc hw hn
      | some ns =>
        by_cases hp : p = wFrame
        · by_cases hl : ns.length = 1
          · obtain ⟨n, rfl⟩ := List.length_eq_one_iff.1 hl
            exact readplan_main t u r p pps n w hs hc hw hn hp
          · exact readplan_first_len t u r p pps ns w hs hc hw hn hp hl
        · exact readplan_first_word t u r p pps ns w hs hc hw hn hp
  · exact readplan_open t ps q w hs hc hq
end Go.Proofs.YtamnfadngbbaeacGreatDoor
