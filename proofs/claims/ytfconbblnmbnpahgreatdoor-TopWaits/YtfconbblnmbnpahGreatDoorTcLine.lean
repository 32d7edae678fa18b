/-
  trace.line: the line of an event that is right.
-/
import Derived.Test.YtfconbblnmbnpahGreatDoorJc2
import Derived.Test.YtfconbblnmbnpahGreatDoorJc3
import Derived.Test.YtfconbblnmbnpahGreatDoorJc1
import Derived.Deep.CutRange
import Derived.BigQuiet
import Derived.RangeFuncNested
namespace Go.Proofs.YtfconbblnmbnpahGreatDoor
open Go.RowKit

theorem two_ints {W : World} {k : Nat} {c d : Int} (hk : k < W.heap.size) (h0 : W.cell? ⟨k, 0, none⟩ = some (.int .i64 c)) (h1 : W.cell? ⟨k, 1, none⟩ = some (.int .i64 d)) : Ints W (.slice (some ⟨k, 0, none⟩) 2 2) [c, d] :=
  Or.inr ⟨⟨k, 0, none⟩, 2, rfl, hk, fun i z hz => by
    match i, hz with
    | 0, hz => simp at hz; subst hz; exact h0
    | 1, hz => simp at hz; subst hz; exact h1⟩
theorem evL_lineB (e : W4) : lineB (Lib.itoa e.1 ++ 32 :: rmB e.2.1) [e.2.2.1, e.2.2.2] = evL e ++ [10] := by
  unfold lineB evL
  simp
set_option maxRecDepth 1000000 in
set_option maxHeartbeats 4000000 in
theorem trline_any (a b c d : Int) (w : World) (hp : Pow10 w) (he : evBad (a, b, c, d) = 0) :
    Calls Tryz.prog 42 #[.agg #[.int .i64 a, .int .i64 b, .int .i64 c, .int .i64 d]] w fun r w' => r = .returned (.string ⟨(evL (a, b, c, d) ++ [10]).toArray⟩) ∧ Below w.heap.size w w' := by
  obtain ⟨h1, h2, h3, h4, _⟩ := evBad_zero he
  have hl1 := Lib.itoa_length_le a (by simp only at h1; omega) (by simp only at h1; omega)
  have hl2 : (rmB b).length ≤ 21 := by
    unfold rmB
    split
    · decide
    · exact Lib.itoa_length_le b (by simp only at h2; omega) (by simp only at h2; omega)
  obtain ⟨W0, hW0⟩ : ∃ W0, w.alloc (.cells #[.int .i64 a, .int .i64 b, .int .i64 c, .int .i64 d] 32) = W0 := ⟨_, rfl⟩
  have bw0 : Below w.heap.size w W0 := by rw [← hW0]; exact (Below.refl _ _).alloc (Nat.le_refl _) _
  have s0 : w.heap.size < W0.heap.size := by rw [← hW0]; simp
  have c0 : W0.cell? ⟨w.heap.size, 0, none⟩ = some (.int .i64 a) := by rw [← hW0]; simp
  have c1 : W0.cell? ⟨w.heap.size, 1, none⟩ = some (.int .i64 b) := by rw [← hW0]; simp
  have c2 : W0.cell? ⟨w.heap.size, 2, none⟩ = some (.int .i64 c) := by rw [← hW0]; simp
  have c3 : W0.cell? ⟨w.heap.size, 3, none⟩ = some (.int .i64 d) := by rw [← hW0]; simp
  have HP : Hid (∀ W, Below W0.heap.size W0 W → Pow10 W) := fun W hb => hp.all (bw0.trans (hb.mono bw0.size))
  have HIa : Hid (∀ W, Below W0.heap.size W0 W → Calls Tryz.prog 83 #[.int .i64 a] W fun e w' => e = .returned (.string ⟨(Lib.itoa a).toArray⟩) ∧ Below W.heap.size W w') := fun W hb => itoa_any a (by simp only at h1; omega) (by simp only at h1; omega) W (HP.out W hb)
  have HIb : Hid (Calls Tryz.prog 83 #[.int .i64 b] W0 fun e w' => e = .returned (.string ⟨(Lib.itoa b).toArray⟩) ∧ Below W0.heap.size W0 w') := itoa_any b (by simp only at h2; omega) (by simp only at h2; omega) W0 (HP.out W0 (Below.refl _ _))
  have HLn : Hid (∀ (k : Nat) W, Below W0.heap.size W0 W → k < W.heap.size → W.cell? ⟨k, 0, none⟩ = some (.int .i64 c) → W.cell? ⟨k, 1, none⟩ = some (.int .i64 d) → Calls Tryz.prog 84 #[.string ((⟨(Lib.itoa a).toArray⟩ ++ ⟨#[32]⟩) ++ ⟨(rmB b).toArray⟩), .slice (some ⟨k, 0, none⟩) 2 2] W fun e w' => e = .returned (.string ⟨(evL (a, b, c, d) ++ [10]).toArray⟩) ∧ Below W.heap.size W w') := fun k W hb hk e0 e1 => by
    have hwd : ((⟨(Lib.itoa a).toArray⟩ ++ ⟨#[32]⟩ : ByteArray) ++ ⟨(rmB b).toArray⟩).data.toList = Lib.itoa a ++ 32 :: rmB b := by simp
    have hws : ((⟨(Lib.itoa a).toArray⟩ ++ ⟨#[32]⟩ : ByteArray) ++ ⟨(rmB b).toArray⟩).size ≤ 100 := by
      have h : ∀ x : ByteArray, x.data.toList.length = x.size := fun x => by simp
      rw [← h, hwd]
      simp
      omega
    have := line_any ((⟨(Lib.itoa a).toArray⟩ ++ ⟨#[32]⟩) ++ ⟨(rmB b).toArray⟩) _ [c, d] W (HP.out W hb) (two_ints hk e0 e1) (fun z hz => by
      simp only [List.mem_cons, List.not_mem_nil, or_false] at hz
      simp only at h3 h4
      rcases hz with rfl | rfl <;> omega) (by have : ([c, d] : List Int).length = 2 := rfl; omega)
    rw [hwd, show lineB (Lib.itoa a ++ 32 :: rmB b) [c, d] = evL (a, b, c, d) ++ [10] from evL_lineB (a, b, c, d)] at this
    exact this
  obtain ⟨T, hT⟩ : ∃ T, T = evL (a, b, c, d) ++ [10] := ⟨_, rfl⟩
  obtain ⟨D, hD⟩ : ∃ D, D = Lib.itoa a := ⟨_, rfl⟩
  obtain ⟨E, hE⟩ : ∃ E, E = rmB b := ⟨_, rfl⟩
  have HE : Hid (E = rmB b) := hE
  rw [← hT] at HLn ⊢
  rw [← hD] at HLn HIa hl1
  rw [← hE] at HLn hl2
  have hn1 : ¬ 9223372036854775807 < D.length + 1 := by omega
  have hn2 : ¬ 9223372036854775807 < D.length + 1 + E.length := by omega
  clear he h1 h2 h3 h4 hp hT hD hE
  go_enter Tryz.func42, Tryz.ntmps42
  go_upto_region 2 with fail
  clear hW0
  go_cut [6] from 4 to 6 (fun s6 wx => s6 = .bool (b != -1) ∧ wx = W0)
  case first =>
    go_wp2_with fail
    go_meet
    case rel => exact ⟨rfl, rfl⟩
  case rest =>
  obtain ⟨rfl, hwc⟩ := hcut
  rw [hwc]
  clear hwc wc
  go_step
  go_cut [3] from 6 to 9 (fun s3 wx => s3 = .string ⟨E.toArray⟩ ∧ Below W0.heap.size W0 wx)
  case first =>
    by_cases hb : b = -1
    · have hbq : (b != -1) = false := by simpa using hb
      have HR : Hid (rmB b = [45]) := by show _ = _; unfold rmB; rw [if_pos hb]
      rw [hbq]
      clear hb
      go_wp2_with fail
      go_meet
      case rel => exact ⟨by rw [HE.out, HR.out], Below.refl _ _⟩
    · have hbq : (b != -1) = true := by simpa using hb
      have HR : Hid (rmB b = Lib.itoa b) := by show _ = _; unfold rmB; rw [if_neg hb]
      rw [hbq]
      clear hb
      have q := HIb.out
      go_wp2_with (go_at_call 83; refine q.mono ?_; rintro e w1 ⟨rfl, b1⟩)
      go_meet
      case rel => exact ⟨by rw [HE.out, HR.out], b1⟩
  case rest =>
  obtain ⟨rfl, hb1⟩ := hcut
  generalize wc = w1 at *
  have s1 := hb1.size
  have hlt : w.heap.size < w1.heap.size := by omega
  clear c1 HIb
  go_upto_region 4 with fail
  have HQ : Hid (∀ W, Below W0.heap.size W0 W → W.cell? ⟨w.heap.size, 0, none⟩ = some (.int .i64 a) ∧ W.cell? ⟨w.heap.size, 2, none⟩ = some (.int .i64 c) ∧ W.cell? ⟨w.heap.size, 3, none⟩ = some (.int .i64 d)) := fun W hb => ⟨(hb.cell (p := ⟨w.heap.size, 0, none⟩) s0).trans c0, (hb.cell (p := ⟨w.heap.size, 2, none⟩) s0).trans c2, (hb.cell (p := ⟨w.heap.size, 3, none⟩) s0).trans c3⟩
  have bcur : Below W0.heap.size W0 w1.drew := hb1.drew
  clear hb1 c0 c2 c3 s1 hlt
  refine wp_region_popped (fun W => W.cell? ⟨w.heap.size, 0, none⟩ = some (.int .i64 a) ∧ W.cell? ⟨w.heap.size, 2, none⟩ = some (.int .i64 c) ∧ W.cell? ⟨w.heap.size, 3, none⟩ = some (.int .i64 d)) (by kernel_rfl) rfl (by decide +kernel) (HQ.out _ bcur) (fun hHeld => ?_)
  simp only [List.pop_toArray, List.dropLast_cons_cons, List.dropLast_singleton, List.size_toArray, List.length_cons, List.length_nil, Nat.reduceAdd, Array.replicate_succ, Array.replicate_zero, List.push_toArray, List.nil_append, List.cons_append]
  generalize w1.drew = wD at bcur hHeld ⊢
  refine wpAnyH_take (i := 0) (v := ?_) rfl (by decide +kernel) (by decide +kernel) (by decide +kernel) (fun _ _ _ h => h) (Or.inl ⟨by rfl, ?_⟩) (by assumption) ?_
  rotate_left
  · intro W hSw
    try dsimp only at hSw
    obtain ⟨hS1, hS2, hS3⟩ := hSw
    go_simp
    try with_reducible rfl
  simp only [Act.put, List.getElem_toArray, List.getElem_cons_zero, List.setIfInBounds_toArray, List.set_cons_zero, List.set_cons_succ]
  refine wpAnyH_take (i := 1) (v := ?_) rfl (by decide +kernel) (by decide +kernel) (by decide +kernel) (fun _ _ _ h => h) (Or.inl ⟨by rfl, ?_⟩) (by assumption) ?_
  rotate_left
  · intro W hSw
    try dsimp only at hSw
    obtain ⟨hS1, hS2, hS3⟩ := hSw
    go_simp
    try with_reducible rfl
  simp only [Act.put, List.getElem_toArray, List.getElem_cons_zero, List.getElem_cons_succ, List.setIfInBounds_toArray, List.set_cons_zero, List.set_cons_succ]
  refine wpAnyH_take (i := 4) (v := ?_) rfl (by decide +kernel) (by decide +kernel) (by decide +kernel) (fun _ _ _ h => h) (Or.inl ⟨by rfl, ?_⟩) (by assumption) ?_
  rotate_left
  · intro W hSw
    try dsimp only at hSw
    obtain ⟨hS1, hS2, hS3⟩ := hSw
    go_simp
    try with_reducible rfl
  simp only [Act.put, List.getElem_toArray, List.getElem_cons_zero, List.getElem_cons_succ, List.setIfInBounds_toArray, List.set_cons_zero, List.set_cons_succ]
  refine wpAnyH_take (i := 6) (v := ?_) rfl (by decide +kernel) (by decide +kernel) (by decide +kernel) (fun _ _ _ h => h) (Or.inl ⟨by rfl, ?_⟩) (by assumption) ?_
  rotate_left
  · intro W hSw
    try dsimp only at hSw
    obtain ⟨hS1, hS2, hS3⟩ := hSw
    go_simp
    try with_reducible rfl
  simp only [Act.put, List.getElem_toArray, List.getElem_cons_zero, List.getElem_cons_succ, List.setIfInBounds_toArray, List.set_cons_zero, List.set_cons_succ]
  refine wpAnyH_take (i := 7) (v := ?_) rfl (by decide +kernel) (by decide +kernel) (by decide +kernel) (fun _ _ _ h => h) (Or.inl ⟨by rfl, ?_⟩) (by assumption) ?_
  rotate_left
  · intro W hSw
    try dsimp only at hSw
    obtain ⟨hS1, hS2, hS3⟩ := hSw
    go_simp
    try with_reducible rfl
  simp only [Act.put, List.getElem_toArray, List.getElem_cons_zero, List.getElem_cons_succ, List.setIfInBounds_toArray, List.set_cons_zero, List.set_cons_succ]
  refine wpAnyH_take (i := 8) (v := ?_) rfl (by decide +kernel) (by decide +kernel) (by decide +kernel) (fun _ _ _ h => h) (Or.inl ⟨by rfl, ?_⟩) (by assumption) ?_
  rotate_left
  · intro W hSw
    try dsimp only at hSw
    obtain ⟨hS1, hS2, hS3⟩ := hSw
    go_simp
    try with_reducible rfl
  simp only [Act.put, List.getElem_toArray, List.getElem_cons_zero, List.getElem_cons_succ, List.setIfInBounds_toArray, List.set_cons_zero, List.set_cons_succ]
  refine wpAnyH_take (i := 9) (v := ?_) rfl (by decide +kernel) (by decide +kernel) (by decide +kernel) (fun _ _ _ h => h) (Or.inl ⟨by rfl, ?_⟩) (by assumption) ?_
  rotate_left
  · intro W hSw
    try dsimp only at hSw
    obtain ⟨hS1, hS2, hS3⟩ := hSw
    go_simp
    try with_reducible rfl
  simp only [Act.put, List.getElem_toArray, List.getElem_cons_zero, List.getElem_cons_succ, List.setIfInBounds_toArray, List.set_cons_zero, List.set_cons_succ]
  refine wpAnyH_ready (rs := [2, 10]) (by decide +kernel) (by simp) ?_
  refine AllReadyH.cons (o := _) rfl (fun K hK => ?_) (AllReadyH.cons (o := _) rfl (fun K hK => ?_) AllReadyH.nil)
  · go_simp
    go_at_call 83
    refine (HIa.out _ bcur).mono ?_
    rintro e w2 ⟨rfl, bN⟩
    replace bcur := bcur.trans (bN.mono bcur.size)
    clear bN
    go_wp2_with fail
    refine hK.out _ _ (HQ.out _ bcur) (fun hHeld => ?_)
    clear hK K
    simp only [List.setIfInBounds_toArray, List.set_cons_zero, List.set_cons_succ]
    refine wpAnyH_take (i := 3) (v := ?_) rfl (by decide +kernel) (by decide +kernel) (by decide +kernel) (fun _ _ _ h => h) (Or.inl ⟨by rfl, ?_⟩) (by assumption) ?_
    rotate_left
    · intro W hSw
      try dsimp only at hSw
      obtain ⟨hS1, hS2, hS3⟩ := hSw
      go_simp
      try with_reducible rfl
    simp only [Act.put, List.getElem_toArray, List.getElem_cons_zero, List.getElem_cons_succ, List.setIfInBounds_toArray, List.set_cons_zero, List.set_cons_succ]
    refine wpAnyH_take (i := 5) (v := ?_) rfl (by decide +kernel) (by decide +kernel) (by decide +kernel) (fun _ _ _ h => h) (Or.inl ⟨by rfl, ?_⟩) (by assumption) ?_
    rotate_left
    · intro W hSw
      try dsimp only at hSw
      obtain ⟨hS1, hS2, hS3⟩ := hSw
      go_simp
      try with_reducible rfl
    simp only [Act.put, List.getElem_toArray, List.getElem_cons_zero, List.getElem_cons_succ, List.setIfInBounds_toArray, List.set_cons_zero, List.set_cons_succ]
    refine wpAnyH_ready (rs := [10]) (by decide +kernel) (by simp) ?_
    refine AllReadyH.cons (o := _) rfl (fun K hK => ?_) AllReadyH.nil
    go_simp
    have e0 : (w2.alloc (.cells #[.int .i64 c, .int .i64 d] 3)).cell? ⟨w2.heap.size, 0, none⟩ = some (.int .i64 c) := by simp
    have e1 : (w2.alloc (.cells #[.int .i64 c, .int .i64 d] 3)).cell? ⟨w2.heap.size, 1, none⟩ = some (.int .i64 d) := by simp
    have hkb : w2.heap.size < (w2.alloc (.cells #[.int .i64 c, .int .i64 d] 3)).heap.size := by simp
    replace bcur := bcur.alloc bcur.size (.cells #[.int .i64 c, .int .i64 d] 3)
    refine hK.out _ _ (HQ.out _ bcur) (fun hHeld => ?_)
    clear hK K
    simp only [List.setIfInBounds_toArray, List.set_cons_zero, List.set_cons_succ]
    generalize (w2.alloc (.cells #[.int .i64 c, .int .i64 d] 3)) = w3 at e0 e1 hkb bcur hHeld ⊢
    generalize w2.heap.size = kb at e0 e1 hkb ⊢
    refine wpAnyH_ready (rs := [11]) (by decide +kernel) (by simp) ?_
    refine AllReadyH.cons (o := _) rfl (fun K hK => ?_) AllReadyH.nil
    go_simp
    go_at_call 84
    refine (HLn.out _ _ bcur hkb e0 e1).mono ?_
    rintro e w9 ⟨rfl, bN⟩
    replace bcur := bcur.trans (bN.mono bcur.size)
    clear bN e0 e1 hkb
    go_wp2_with fail
    refine hK.out _ _ (HQ.out _ bcur) (fun hHeld => ?_)
    clear hK K
    simp only [List.setIfInBounds_toArray, List.set_cons_zero, List.set_cons_succ]
    refine wpAnyH_done (by decide +kernel) ?_ _
    show Oper.wp _ _ _ _ _ _
    go_simp
    go_wp2_with fail
    go_ret
    exact ⟨rfl, bw0.trans (bcur.mono bw0.size)⟩
  · go_simp
    have e0 : (wD.alloc (.cells #[.int .i64 c, .int .i64 d] 3)).cell? ⟨wD.heap.size, 0, none⟩ = some (.int .i64 c) := by simp
    have e1 : (wD.alloc (.cells #[.int .i64 c, .int .i64 d] 3)).cell? ⟨wD.heap.size, 1, none⟩ = some (.int .i64 d) := by simp
    have hkb : wD.heap.size < (wD.alloc (.cells #[.int .i64 c, .int .i64 d] 3)).heap.size := by simp
    replace bcur := bcur.alloc bcur.size (.cells #[.int .i64 c, .int .i64 d] 3)
    refine hK.out _ _ (HQ.out _ bcur) (fun hHeld => ?_)
    clear hK K
    simp only [List.setIfInBounds_toArray, List.set_cons_zero, List.set_cons_succ]
    generalize (wD.alloc (.cells #[.int .i64 c, .int .i64 d] 3)) = w2 at e0 e1 hkb bcur hHeld ⊢
    generalize wD.heap.size = kb at e0 e1 hkb ⊢
    refine wpAnyH_ready (rs := [2]) (by decide +kernel) (by simp) ?_
    refine AllReadyH.cons (o := _) rfl (fun K hK => ?_) AllReadyH.nil
    go_simp
    go_at_call 83
    refine (HIa.out _ bcur).mono ?_
    rintro e w3 ⟨rfl, bN⟩
    replace e0 := (bN.cell (p := ⟨kb, 0, none⟩) hkb).trans e0
    replace e1 := (bN.cell (p := ⟨kb, 1, none⟩) hkb).trans e1
    replace hkb := Nat.lt_of_lt_of_le hkb bN.size
    replace bcur := bcur.trans (bN.mono bcur.size)
    clear bN
    go_wp2_with fail
    refine hK.out _ _ (HQ.out _ bcur) (fun hHeld => ?_)
    clear hK K
    simp only [List.setIfInBounds_toArray, List.set_cons_zero, List.set_cons_succ]
    refine wpAnyH_take (i := 3) (v := ?_) rfl (by decide +kernel) (by decide +kernel) (by decide +kernel) (fun _ _ _ h => h) (Or.inl ⟨by rfl, ?_⟩) (by assumption) ?_
    rotate_left
    · intro W hSw
      try dsimp only at hSw
      obtain ⟨hS1, hS2, hS3⟩ := hSw
      go_simp
      try with_reducible rfl
    simp only [Act.put, List.getElem_toArray, List.getElem_cons_zero, List.getElem_cons_succ, List.setIfInBounds_toArray, List.set_cons_zero, List.set_cons_succ]
    refine wpAnyH_take (i := 5) (v := ?_) rfl (by decide +kernel) (by decide +kernel) (by decide +kernel) (fun _ _ _ h => h) (Or.inl ⟨by rfl, ?_⟩) (by assumption) ?_
    rotate_left
    · intro W hSw
      try dsimp only at hSw
      obtain ⟨hS1, hS2, hS3⟩ := hSw
      go_simp
      try with_reducible rfl
    simp only [Act.put, List.getElem_toArray, List.getElem_cons_zero, List.getElem_cons_succ, List.setIfInBounds_toArray, List.set_cons_zero, List.set_cons_succ]
    refine wpAnyH_ready (rs := [11]) (by decide +kernel) (by simp) ?_
    refine AllReadyH.cons (o := _) rfl (fun K hK => ?_) AllReadyH.nil
    go_simp
    go_at_call 84
    refine (HLn.out _ _ bcur hkb e0 e1).mono ?_
    rintro e w9 ⟨rfl, bN⟩
    replace bcur := bcur.trans (bN.mono bcur.size)
    clear bN e0 e1 hkb
    go_wp2_with fail
    refine hK.out _ _ (HQ.out _ bcur) (fun hHeld => ?_)
    clear hK K
    simp only [List.setIfInBounds_toArray, List.set_cons_zero, List.set_cons_succ]
    refine wpAnyH_done (by decide +kernel) ?_ _
    show Oper.wp _ _ _ _ _ _
    go_simp
    go_wp2_with fail
    go_ret
    exact ⟨rfl, bw0.trans (bcur.mono bw0.size)⟩
end Go.Proofs.YtfconbblnmbnpahGreatDoor
