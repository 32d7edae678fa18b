/-
  Package snap: text. What was kept, as a text.
-/
import Derived.Test.YtajfgmlockjmhaiGreatDoorJt7
import Derived.Test.YtajfgmlockjmhaiGreatDoorSnLay
import Derived.Test.YtajfgmlockjmhaiGreatDoorJt3
import Derived.Test.YtajfgmlockjmhaiGreatDoorJt1
import Derived.Deep.CutRange
import Derived.Deep.RegionWith
import Derived.Deep.RegionHeld3
import Derived.RangeFuncNested
namespace Go.Proofs.YtajfgmlockjmhaiGreatDoor
open Go.RowKit

theorem sx_cells (t l : List UInt8) : Lib.byteCells (t ++ l) = Lib.byteCells t ++ Lib.strCells ⟨l.toArray⟩ := by
  simp [Lib.byteCells, Lib.strCells]
theorem own_more {W : World} {a b : Nat} {e : TypeId} {size n : Nat} {v : Value} {xs : List Value} (hab : a ≤ b) (h : W.ownsRow b e size v n xs) : W.ownsRow a e size v n xs := by
  refine ⟨h.1, ?_⟩
  rcases h.2 with h1 | ⟨g, cap, cur, h1, h2, h3⟩
  · exact Or.inl h1
  · exact Or.inr ⟨g, cap, cur, h1, Nat.le_trans hab h2, h3⟩
theorem three_laid (W : World) (x y z a b : Value) (t1 t2 t3 : TypeId) :
    ((((W.alloc (.cells #[x, y] t1)).alloc (.cells #[z] t2)).alloc (.cells #[a, b] t3)).cell? ⟨W.heap.size + 1 + 1, 0, none⟩ = some a ∧ (((W.alloc (.cells #[x, y] t1)).alloc (.cells #[z] t2)).alloc (.cells #[a, b] t3)).cell? ⟨W.heap.size + 1 + 1, 1, none⟩ = some b ∧ (((W.alloc (.cells #[x, y] t1)).alloc (.cells #[z] t2)).alloc (.cells #[a, b] t3)).cell? ⟨W.heap.size + 1, 0, none⟩ = some z) ∧ W.heap.size + 1 + 1 < (((W.alloc (.cells #[x, y] t1)).alloc (.cells #[z] t2)).alloc (.cells #[a, b] t3)).heap.size ∧ W.heap.size + 1 < (((W.alloc (.cells #[x, y] t1)).alloc (.cells #[z] t2)).alloc (.cells #[a, b] t3)).heap.size ∧ Below W.heap.size W (((W.alloc (.cells #[x, y] t1)).alloc (.cells #[z] t2)).alloc (.cells #[a, b] t3)) := by
  have e1 : W.heap.size + 1 = (W.alloc (.cells #[x, y] t1)).heap.size := by simp
  have e2 : W.heap.size + 1 + 1 = ((W.alloc (.cells #[x, y] t1)).alloc (.cells #[z] t2)).heap.size := by simp
  refine ⟨⟨?_, ?_, ?_⟩, by simp, by simp, (((Below.refl _ W).alloc (Nat.le_refl _) _).alloc (by simp) _).alloc (by simp; omega) _⟩
  · rw [e2]; generalize (W.alloc (.cells #[x, y] t1)).alloc (.cells #[z] t2) = V; simp
  · rw [e2]; generalize (W.alloc (.cells #[x, y] t1)).alloc (.cells #[z] t2) = V; simp
  · have h : ((W.alloc (.cells #[x, y] t1)).alloc (.cells #[z] t2)).cell? ⟨W.heap.size + 1, 0, none⟩ = some z := by rw [e1]; generalize W.alloc (.cells #[x, y] t1) = V; simp
    exact ((Below.refl _ _).alloc (Nat.le_refl _) _).cell (p := ⟨W.heap.size + 1, 0, none⟩) (by simp) |>.trans h
set_option maxRecDepth 1000000 in
set_option maxHeartbeats 8000000 in
theorem text_any (k : KD) (vr vw : Value) (us : List (Value × Int)) (B : Nat) (w : World) (hp : Pow10 w) (h : Kps w B vr vw k.rooms us k.lines) (hs : SnSmall k) :
    Calls Tryz.prog 42 #[.agg #[.int .i64 k.time, vr, vw]] w fun e w' => e = .returned (.string ⟨(snB k).toArray⟩) ∧ Below w.heap.size w w' := by
  obtain ⟨⟨ra, rc, rfl⟩, wa, wc, rfl⟩ := kps_form h
  have HLR : Hid (∀ j, (sxR k j).length ≤ 2000) := (sx_len hs).1
  have HLW : Hid (∀ j, (sxW k j).length ≤ 6000) := (sx_len hs).2
  have H : Hid (Kps w B (.slice ra k.rooms.length rc) (.slice wa us.length wc) k.rooms us k.lines) := h
  have HSm : Hid (SnSmall k) := hs
  have hr5 : k.rooms.length ≤ 5 := hs.rl
  have hu12 : us.length ≤ 12 := by rw [h.ul]; exact hs.ll
  have HUL : Hid (us.length = k.lines.length) := h.ul
  have HLT : Hid (∀ (W : World) (g : Nat), Pow10 W → g < W.heap.size → W.cell? ⟨g, 0, none⟩ = some (.int .i64 k.time) → Calls Tryz.prog 68 #[.string ⟨#[116, 105, 109, 101]⟩, .slice (some ⟨g, 0, none⟩) 1 1] W fun e w' => e = .returned (.string ⟨(sxR k 0).toArray⟩) ∧ Below W.heap.size W w') := fun W g hpw hg hc => by
    have q := line_any ⟨#[116, 105, 109, 101]⟩ (.slice (some ⟨g, 0, none⟩) 1 1) [k.time] W hpw (Or.inr ⟨⟨g, 0, none⟩, 1, rfl, hg, fun i z hi => by
      match i, hi with
      | 0, hi => simp at hi; subst hi; rw [Addr.add_lit]; exact hc
      | i + 1, hi => simp at hi⟩) (fun z hz => by rw [List.mem_singleton] at hz; subst hz; have := HSm.out.tm; omega) (by simp [ByteArray.size])
    rw [sxR_zero]
    simpa [lineB, stimeL, snTimeW] using q
  have HLn : Hid (∀ (word : List UInt8) (base : Nat) (v : Value) (zs : List Int) (W : World), Below w.heap.size w W → W.ownsRow base 3 1 v zs.length (ints zs) → zs ≠ [] → (∀ z ∈ zs, 0 ≤ z ∧ z ≤ 100000000) → word.length ≤ 10 → zs.length ≤ 10 → Calls Tryz.prog 68 #[.string ⟨word.toArray⟩, v] W fun e w' => e = .returned (.string ⟨((word ++ tail zs) ++ [10]).toArray⟩) ∧ Below W.heap.size W w') := fun word base v zs W hb h1 h2 h3 h4 h5 => line_row word v zs W (hp.all hb) h1 h2 h3 h4 h5
  have HP : Hid (Pow10 w) := hp
  clear h hs hp
  go_enter Tryz.func42, Tryz.ntmps42
  have hF := Lib.IsBuilderF.of (Lib.fresh_isBuilder 134 5 (w.alloc (.cells #[.int .i64 k.time, .slice ra k.rooms.length rc, .slice wa us.length wc] 103)))
  simp only [World.size_alloc] at hF
  have d0 : ((w.alloc (.cells #[.int .i64 k.time, .slice ra k.rooms.length rc, .slice wa us.length wc] 103)).alloc (.cells #[.pointer none, .slice none 0 0] 134)).cell? ⟨w.heap.size, 0, none⟩ = some (.int .i64 k.time) := by simp
  have d1 : ((w.alloc (.cells #[.int .i64 k.time, .slice ra k.rooms.length rc, .slice wa us.length wc] 103)).alloc (.cells #[.pointer none, .slice none 0 0] 134)).cell? ⟨w.heap.size, 1, none⟩ = some (.slice ra k.rooms.length rc) := by simp
  have d2 : ((w.alloc (.cells #[.int .i64 k.time, .slice ra k.rooms.length rc, .slice wa us.length wc] 103)).alloc (.cells #[.pointer none, .slice none 0 0] 134)).cell? ⟨w.heap.size, 2, none⟩ = some (.slice wa us.length wc) := by simp
  have hB0 : Below w.heap.size w ((w.alloc (.cells #[.int .i64 k.time, .slice ra k.rooms.length rc, .slice wa us.length wc] 103)).alloc (.cells #[.pointer none, .slice none 0 0] 134)) := ((Below.refl _ w).alloc (Nat.le_refl _) _).alloc (by simp) _
  have hs0 : w.heap.size + 2 ≤ ((w.alloc (.cells #[.int .i64 k.time, .slice ra k.rooms.length rc, .slice wa us.length wc] 103)).alloc (.cells #[.pointer none, .slice none 0 0] 134)).heap.size := by simp
  go_upto_region 2 with fail
  generalize (w.alloc (.cells #[.int .i64 k.time, .slice ra k.rooms.length rc, .slice wa us.length wc] 103)).alloc (.cells #[.pointer none, .slice none 0 0] 134) = W0 at hF d0 d1 d2 hB0 hs0 ⊢
  have HX : Hid (∀ W, Below (w.heap.size + 1) W0 W → W.cell? ⟨w.heap.size, 1, none⟩ = some (.slice ra k.rooms.length rc) ∧ W.cell? ⟨w.heap.size, 2, none⟩ = some (.slice wa us.length wc)) := fun W hb => ⟨(hb.cell (p := ⟨w.heap.size, 1, none⟩) (by simp)).trans d1, (hb.cell (p := ⟨w.heap.size, 2, none⟩) (by simp)).trans d2⟩
  go_wp2_with (first
    | (go_at_call 68; refine (HLT.out _ _ (HP.out.all (hB0.alloc (by omega) _)) (by simp) (by simp)).mono ?_; rintro e w1 ⟨rfl, b1⟩; have b01 : Below W0.heap.size W0 w1 := ((Below.refl _ W0).alloc (Nat.le_refl _) _).trans (b1.mono (by simp)); have hs1 := b01.size)
    | (go_at_call 67; refine (writeString_any (w.heap.size + 1) (w.heap.size + 1) [] _ _ (isb_all hF b01) (by rw [ba_size]; have := HLR.out 0; simp; omega) (by omega)).mono ?_; rintro e w2 ⟨rfl, h2, b2, _⟩; obtain ⟨x1, x2⟩ := HX.out _ ((b01.mono (by omega)).trans b2)))
  have hb2 : Below (w.heap.size + 1) W0 w2 := (b01.mono (by omega)).trans b2
  have h2' : Lib.IsBuilderF 134 5 (w.heap.size + 1) (w.heap.size + 1) (Lib.byteCells (sxR k 0)) w2 := Or.inr (by simpa [Lib.byteCells, Lib.strCells] using h2)
  clear h2 b2 b01 b1 hF d0 hs1
  go_loopw [18] (fun i wr => ∃ n : Nat, n ≤ k.rooms.length ∧ i = .int .i64 n ∧ Lib.IsBuilderF 134 5 (w.heap.size + 1) (w.heap.size + 1) (Lib.byteCells (sxR k n)) wr ∧ Below (w.heap.size + 1) W0 wr) (fun i _ => k.rooms.length - (intOf i).toNat)
  case atStart => exact ⟨0, Nat.zero_le _, rfl, h2', hb2⟩
  case round =>
  clear h2' hb2 x1 x2
  obtain ⟨n, hn, rfl, hI, hb⟩ := hrel
  have hbw : Below w.heap.size w wr := hB0.trans (hb.mono (by omega))
  have hsz := hb.size
  by_cases hnl : n < k.rooms.length
  · have hni : (n : Int) < (k.rooms.length : Int) := by omega
    obtain ⟨s, hst⟩ : ∃ s, k.rooms[n]? = some s := ⟨_, List.getElem?_eq_getElem hnl⟩
    obtain ⟨g, cap, e, hBg, hlt, hcs⟩ := was_at H.out.rr (by omega)
    injection e with e1 _ e3
    subst e1
    subst e3
    have hc := hcs n s hst
    have hsc := StC.block hc (hbw.block g hlt)
    obtain ⟨s0, s1, s2, s3, s4, s5, s6, s7⟩ := hsc
    have HNx : Hid (sxR k (n + 1) = sxR k n ++ (sroomL s ++ [10])) := sxR_next hst
    have HNu : Hid (∀ z ∈ stN s, 0 ≤ z ∧ z ≤ 100000000) := HSm.out.rooms s (List.mem_of_getElem? hst)
    have hl := HLR.out (n + 1)
    rw [HNx.out] at hl
    clear hst hc hcs
    go_upto_region 6 with fail
    have hbx : Below wr.heap.size wr (wr.alloc (.cells #[.int .i64 s.p, .int .i64 (s.c 0), .int .i64 (s.c 1), .int .i64 (s.c 2), .int .i64 (s.c 3), .int .i64 (s.c 4), .int .i64 (s.c 5), .bool s.f] 73)) := (Below.refl _ _).alloc (Nat.le_refl _) _
    have hbs : wr.heap.size < (wr.alloc (.cells #[.int .i64 s.p, .int .i64 (s.c 0), .int .i64 (s.c 1), .int .i64 (s.c 2), .int .i64 (s.c 3), .int .i64 (s.c 4), .int .i64 (s.c 5), .bool s.f] 73)).heap.size := by simp
    have hbb : StB (wr.alloc (.cells #[.int .i64 s.p, .int .i64 (s.c 0), .int .i64 (s.c 1), .int .i64 (s.c 2), .int .i64 (s.c 3), .int .i64 (s.c 4), .int .i64 (s.c 5), .bool s.f] 73)) wr.heap.size s := World.alloc_heap_new _ _
    generalize wr.alloc (.cells #[.int .i64 s.p, .int .i64 (s.c 0), .int .i64 (s.c 1), .int .i64 (s.c 2), .int .i64 (s.c 3), .int .i64 (s.c 4), .int .i64 (s.c 5), .bool s.f] 73) = W5 at hbx hbs hbb ⊢
    obtain ⟨t0, t1, t2, t3, t4, t5, t6, t7⟩ := hbb.cs
    simp only [Nat.zero_add] at t1 t2 t3 t4 t5 t6 t7
    clear s0 s1 s2 s3 s4 s5 s6 s7 hbb
    obtain ⟨b, hbe⟩ : ∃ b, b = wr.heap.size := ⟨_, rfl⟩
    have hbl : b < W5.heap.size := by omega
    rw [← hbe] at t0 t1 t2 t3 t4 t5 t6 t7 ⊢
    clear hbe
    have HC : Hid (∀ W, Below W5.heap.size W5 W → ∀ j, j < 6 → W.cell? ⟨b, 1 + j, none⟩ = some (.int .i64 (s.c j))) := fun W hW j hj => by
      refine (hW.cell (p := ⟨b, 1 + j, none⟩) hbl).trans ?_
      match j, hj with
      | 0, _ => exact t1
      | 1, _ => exact t2
      | 2, _ => exact t3
      | 3, _ => exact t4
      | 4, _ => exact t5
      | 5, _ => exact t6
      | j + 6, hj => omega
    have HQ : Hid (∀ W, Below W5.heap.size W5 W → W.cell? ⟨b, 0, none⟩ = some (.int .i64 s.p) ∧ W.cell? ⟨b, 7, none⟩ = some (.bool s.f)) := fun W hW => ⟨(hW.cell (p := ⟨b, 0, none⟩) hbl).trans t0, (hW.cell (p := ⟨b, 7, none⟩) hbl).trans t7⟩
    clear t0 t1 t2 t3 t4 t5 t6 t7
    obtain ⟨fl, hfl⟩ : ∃ fl : Int, (if s.f = true then 1 else 0) = fl := ⟨_, rfl⟩
    have HFl : Hid (∀ W, Calls Tryz.prog 70 #[.bool s.f] W fun e w' => e = .returned (.int .i64 fl) ∧ w' = W) := fun W => by
      have := flag_any s.f W
      rwa [hfl] at this
    have HFE : Hid ((if s.f = true then (1 : Int) else 0) = fl) := hfl
    clear hfl
    go_cut [6] from 22 to 32 (fun s6 wx => ∃ ao c, s6 = .slice ao 8 c ∧ wx.ownsRow W5.heap.size 3 1 (.slice ao 8 c) (stN s).length (ints (stN s)) ∧ Below W5.heap.size W5 wx)
    case first =>
      have bcur : Below W5.heap.size W5 W5.drew := (Below.refl _ _).drew
      refine wp_region_popped (fun W => W.cell? ⟨b, 0, none⟩ = some (.int .i64 s.p) ∧ W.cell? ⟨b, 7, none⟩ = some (.bool s.f)) (by kernel_rfl) rfl (by decide +kernel) (HQ.out _ bcur) (fun hHeld => ?_)
      simp only [List.pop_toArray, List.dropLast_cons_cons, List.dropLast_singleton, List.size_toArray, List.length_cons, List.length_nil, Nat.reduceAdd, Array.replicate_succ, Array.replicate_zero, List.push_toArray, List.nil_append, List.cons_append]
      generalize W5.drew = wD at bcur hHeld ⊢
      refine wpAnyH_take (i := 0) (v := ?_) rfl (by decide +kernel) (by decide +kernel) (by decide +kernel) (fun _ _ _ h => h) (Or.inl ⟨by rfl, ?_⟩) (by assumption) ?_
      rotate_left
      · intro W hSw
        try dsimp only at hSw
        obtain ⟨hS1, hS2⟩ := hSw
        go_simp
        try with_reducible rfl
      simp only [Act.put, List.setIfInBounds_toArray, List.set_cons_zero]
      refine wpAnyH_take (i := 1) (v := ?_) rfl (by decide +kernel) (by decide +kernel) (by decide +kernel) (fun _ _ _ h => h) (Or.inl ⟨by rfl, ?_⟩) (by assumption) ?_
      rotate_left
      · intro W hSw
        try dsimp only at hSw
        obtain ⟨hS1, hS2⟩ := hSw
        go_simp
        try with_reducible rfl
      simp only [Act.put, List.setIfInBounds_toArray, List.set_cons_zero, List.set_cons_succ, List.getElem_toArray, List.getElem_cons_zero, List.getElem_cons_succ]
      refine wpAnyH_take (i := 3) (v := ?_) rfl (by decide +kernel) (by decide +kernel) (by decide +kernel) (fun _ _ _ h => h) (Or.inl ⟨by rfl, ?_⟩) (by assumption) ?_
      rotate_left
      · intro W hSw
        try dsimp only at hSw
        obtain ⟨hS1, hS2⟩ := hSw
        go_simp
        try with_reducible rfl
      simp only [Act.put, List.setIfInBounds_toArray, List.set_cons_zero, List.set_cons_succ, List.getElem_toArray, List.getElem_cons_zero, List.getElem_cons_succ]
      refine wpAnyH_take (i := 4) (v := ?_) rfl (by decide +kernel) (by decide +kernel) (by decide +kernel) (fun _ _ _ h => h) (Or.inl ⟨by rfl, ?_⟩) (by assumption) ?_
      rotate_left
      · intro W hSw
        try dsimp only at hSw
        obtain ⟨hS1, hS2⟩ := hSw
        go_simp
        try with_reducible rfl
      simp only [Act.put, List.setIfInBounds_toArray, List.set_cons_zero, List.set_cons_succ, List.getElem_toArray, List.getElem_cons_zero, List.getElem_cons_succ]
      refine wpAnyH_take (i := 5) (v := ?_) rfl (by decide +kernel) (by decide +kernel) (by decide +kernel) (fun _ _ _ h => h) (Or.inl ⟨by rfl, ?_⟩) (by assumption) ?_
      rotate_left
      · intro W hSw
        try dsimp only at hSw
        obtain ⟨hS1, hS2⟩ := hSw
        go_simp
        try with_reducible rfl
      simp only [Act.put, List.setIfInBounds_toArray, List.set_cons_zero, List.set_cons_succ, List.getElem_toArray, List.getElem_cons_zero, List.getElem_cons_succ]
      refine wpAnyH_take (i := 6) (v := ?_) rfl (by decide +kernel) (by decide +kernel) (by decide +kernel) (fun _ _ _ h => h) (Or.inl ⟨by rfl, ?_⟩) (by assumption) ?_
      rotate_left
      · intro W hSw
        try dsimp only at hSw
        obtain ⟨hS1, hS2⟩ := hSw
        go_simp
        try with_reducible rfl
      simp only [Act.put, List.setIfInBounds_toArray, List.set_cons_zero, List.set_cons_succ, List.getElem_toArray, List.getElem_cons_zero, List.getElem_cons_succ]
      refine wpAnyH_ready (rs := [2, 7]) (by decide +kernel) (by simp) ?_
      refine AllReadyH.cons (o := _) rfl (fun K hK => ?_) (AllReadyH.cons (o := _) rfl (fun K hK => ?_) AllReadyH.nil)
      · go_simp
        have bN : Below wD.heap.size wD (wD.alloc (.cells #[.int .i64 s.p] 3)) := (Below.refl _ _).alloc (Nat.le_refl _) _
        have e1 : (wD.alloc (.cells #[.int .i64 s.p] 3)).cell? ⟨wD.heap.size, 0, none⟩ = some (.int .i64 s.p) := by simp
        have l1 : wD.heap.size < (wD.alloc (.cells #[.int .i64 s.p] 3)).heap.size := by simp
        replace bcur := bcur.trans (bN.mono bcur.size)
        clear bN
        refine hK.out _ _ (HQ.out _ bcur) (fun hHeld => ?_)
        clear hK K
        simp only [List.setIfInBounds_toArray, List.set_cons_zero, List.set_cons_succ]
        generalize (wD.alloc (.cells #[.int .i64 s.p] 3)) = w2 at e1 l1 bcur hHeld ⊢
        generalize wD.heap.size = g1 at e1 l1 ⊢
        refine wpAnyH_ready (rs := [7]) (by decide +kernel) (by simp) ?_
        refine AllReadyH.cons (o := _) rfl (fun K hK => ?_) AllReadyH.nil
        go_simp
        go_at_call 70
        refine (HFl.out _).mono ?_
        rintro e wf ⟨rfl, hwf⟩
        subst wf
        go_wp2_with fail
        refine hK.out _ _ (HQ.out _ bcur) (fun hHeld => ?_)
        clear hK K
        simp only [List.setIfInBounds_toArray, List.set_cons_zero, List.set_cons_succ]
        refine wpAnyH_ready (rs := [8]) (by decide +kernel) (by simp) ?_
        refine AllReadyH.cons (o := _) rfl (fun K hK => ?_) AllReadyH.nil
        go_simp
        have bN : Below w2.heap.size w2 (w2.alloc (.cells #[.int .i64 fl] 3)) := (Below.refl _ _).alloc (Nat.le_refl _) _
        have e2 : (w2.alloc (.cells #[.int .i64 fl] 3)).cell? ⟨w2.heap.size, 0, none⟩ = some (.int .i64 fl) := by simp
        have l2 : w2.heap.size < (w2.alloc (.cells #[.int .i64 fl] 3)).heap.size := by simp
        replace e1 := (bN.cell (p := ⟨g1, 0, none⟩) l1).trans e1
        replace l1 := Nat.lt_of_lt_of_le l1 bN.size
        replace bcur := bcur.trans (bN.mono bcur.size)
        clear bN
        refine hK.out _ _ (HQ.out _ bcur) (fun hHeld => ?_)
        clear hK K
        simp only [List.setIfInBounds_toArray, List.set_cons_zero, List.set_cons_succ]
        generalize (w2.alloc (.cells #[.int .i64 fl] 3)) = w3 at e2 l2 e1 l1 bcur hHeld ⊢
        generalize w2.heap.size = g2 at e2 l2 ⊢
        refine wpAnyH_ready (rs := [9]) (by decide +kernel) (by simp) ?_
        refine AllReadyH.cons (o := _) rfl (fun K hK => ?_) AllReadyH.nil
        go_simp
        have bN : Below w3.heap.size w3 (w3.alloc (.cells #[.slice (some ⟨g1, 0, none⟩) 1 1, .slice (some ⟨b, 1, none⟩) 6 6, .slice (some ⟨g2, 0, none⟩) 1 1] 58)) := (Below.refl _ _).alloc (Nat.le_refl _) _
        have e3 : (w3.alloc (.cells #[.slice (some ⟨g1, 0, none⟩) 1 1, .slice (some ⟨b, 1, none⟩) 6 6, .slice (some ⟨g2, 0, none⟩) 1 1] 58)).cell? ⟨w3.heap.size, 0, none⟩ = some (.slice (some ⟨g1, 0, none⟩) 1 1) := by simp
        have e4 : (w3.alloc (.cells #[.slice (some ⟨g1, 0, none⟩) 1 1, .slice (some ⟨b, 1, none⟩) 6 6, .slice (some ⟨g2, 0, none⟩) 1 1] 58)).cell? ⟨w3.heap.size, 1, none⟩ = some (.slice (some ⟨b, 1, none⟩) 6 6) := by simp
        have e5 : (w3.alloc (.cells #[.slice (some ⟨g1, 0, none⟩) 1 1, .slice (some ⟨b, 1, none⟩) 6 6, .slice (some ⟨g2, 0, none⟩) 1 1] 58)).cell? ⟨w3.heap.size, 2, none⟩ = some (.slice (some ⟨g2, 0, none⟩) 1 1) := by simp
        have l3 : w3.heap.size < (w3.alloc (.cells #[.slice (some ⟨g1, 0, none⟩) 1 1, .slice (some ⟨b, 1, none⟩) 6 6, .slice (some ⟨g2, 0, none⟩) 1 1] 58)).heap.size := by simp
        replace e1 := (bN.cell (p := ⟨g1, 0, none⟩) l1).trans e1
        replace e2 := (bN.cell (p := ⟨g2, 0, none⟩) l2).trans e2
        replace l1 := Nat.lt_of_lt_of_le l1 bN.size
        replace l2 := Nat.lt_of_lt_of_le l2 bN.size
        replace bcur := bcur.trans (bN.mono bcur.size)
        clear bN
        refine hK.out _ _ (HQ.out _ bcur) (fun hHeld => ?_)
        clear hK K
        simp only [List.setIfInBounds_toArray, List.set_cons_zero, List.set_cons_succ]
        generalize (w3.alloc (.cells #[.slice (some ⟨g1, 0, none⟩) 1 1, .slice (some ⟨b, 1, none⟩) 6 6, .slice (some ⟨g2, 0, none⟩) 1 1] 58)) = w5 at e3 e4 e5 l3 e1 e2 l1 l2 bcur hHeld ⊢
        generalize w3.heap.size = g3 at e3 e4 e5 l3 ⊢
        refine wpAnyH_ready (rs := [10]) (by decide +kernel) (by simp) ?_
        refine AllReadyH.cons (o := _) rfl (fun K hK => ?_) AllReadyH.nil
        go_simp
        go_at_call 69
        refine (conc_room s b g3 g1 g2 _ l3 l1 (Nat.lt_of_lt_of_le hbl bcur.size) l2 e3 e4 e5 e1 (fun j hj => HC.out _ bcur j hj) (by rw [HFE.out]; exact e2)).mono ?_
        rintro e w6 ⟨ao, c, rfl, own6, b6⟩
        have hs6 := bcur.size
        replace bcur := bcur.trans (b6.mono bcur.size)
        clear b6 e1 e2 e3 e4 e5 l1 l2 l3
        go_wp2_with fail
        refine hK.out _ _ (HQ.out _ bcur) (fun hHeld => ?_)
        clear hK K
        simp only [List.setIfInBounds_toArray, List.set_cons_zero, List.set_cons_succ]
        refine wpAnyH_done (by decide +kernel) ?_ _
        show Oper.wp _ _ _ _ _ _
        go_simp
        go_wp2_with fail
        go_meet
        case rel => exact ⟨ao, c, rfl, own_more hs6 own6, bcur⟩
      · go_simp
        go_at_call 70
        refine (HFl.out _).mono ?_
        rintro e wf ⟨rfl, hwf⟩
        subst wf
        go_wp2_with fail
        refine hK.out _ _ (HQ.out _ bcur) (fun hHeld => ?_)
        clear hK K
        simp only [List.setIfInBounds_toArray, List.set_cons_zero, List.set_cons_succ]
        refine wpAnyH_ready (rs := [2, 8]) (by decide +kernel) (by simp) ?_
        refine AllReadyH.cons (o := _) rfl (fun K hK => ?_) (AllReadyH.cons (o := _) rfl (fun K hK => ?_) AllReadyH.nil)
        · go_simp
          have bN : Below wD.heap.size wD (wD.alloc (.cells #[.int .i64 s.p] 3)) := (Below.refl _ _).alloc (Nat.le_refl _) _
          have e1 : (wD.alloc (.cells #[.int .i64 s.p] 3)).cell? ⟨wD.heap.size, 0, none⟩ = some (.int .i64 s.p) := by simp
          have l1 : wD.heap.size < (wD.alloc (.cells #[.int .i64 s.p] 3)).heap.size := by simp
          replace bcur := bcur.trans (bN.mono bcur.size)
          clear bN
          refine hK.out _ _ (HQ.out _ bcur) (fun hHeld => ?_)
          clear hK K
          simp only [List.setIfInBounds_toArray, List.set_cons_zero, List.set_cons_succ]
          generalize (wD.alloc (.cells #[.int .i64 s.p] 3)) = w2 at e1 l1 bcur hHeld ⊢
          generalize wD.heap.size = g1 at e1 l1 ⊢
          refine wpAnyH_ready (rs := [8]) (by decide +kernel) (by simp) ?_
          refine AllReadyH.cons (o := _) rfl (fun K hK => ?_) AllReadyH.nil
          go_simp
          have bN : Below w2.heap.size w2 (w2.alloc (.cells #[.int .i64 fl] 3)) := (Below.refl _ _).alloc (Nat.le_refl _) _
          have e2 : (w2.alloc (.cells #[.int .i64 fl] 3)).cell? ⟨w2.heap.size, 0, none⟩ = some (.int .i64 fl) := by simp
          have l2 : w2.heap.size < (w2.alloc (.cells #[.int .i64 fl] 3)).heap.size := by simp
          replace e1 := (bN.cell (p := ⟨g1, 0, none⟩) l1).trans e1
          replace l1 := Nat.lt_of_lt_of_le l1 bN.size
          replace bcur := bcur.trans (bN.mono bcur.size)
          clear bN
          refine hK.out _ _ (HQ.out _ bcur) (fun hHeld => ?_)
          clear hK K
          simp only [List.setIfInBounds_toArray, List.set_cons_zero, List.set_cons_succ]
          generalize (w2.alloc (.cells #[.int .i64 fl] 3)) = w3 at e2 l2 e1 l1 bcur hHeld ⊢
          generalize w2.heap.size = g2 at e2 l2 ⊢
          refine wpAnyH_ready (rs := [9]) (by decide +kernel) (by simp) ?_
          refine AllReadyH.cons (o := _) rfl (fun K hK => ?_) AllReadyH.nil
          go_simp
          have bN : Below w3.heap.size w3 (w3.alloc (.cells #[.slice (some ⟨g1, 0, none⟩) 1 1, .slice (some ⟨b, 1, none⟩) 6 6, .slice (some ⟨g2, 0, none⟩) 1 1] 58)) := (Below.refl _ _).alloc (Nat.le_refl _) _
          have e3 : (w3.alloc (.cells #[.slice (some ⟨g1, 0, none⟩) 1 1, .slice (some ⟨b, 1, none⟩) 6 6, .slice (some ⟨g2, 0, none⟩) 1 1] 58)).cell? ⟨w3.heap.size, 0, none⟩ = some (.slice (some ⟨g1, 0, none⟩) 1 1) := by simp
          have e4 : (w3.alloc (.cells #[.slice (some ⟨g1, 0, none⟩) 1 1, .slice (some ⟨b, 1, none⟩) 6 6, .slice (some ⟨g2, 0, none⟩) 1 1] 58)).cell? ⟨w3.heap.size, 1, none⟩ = some (.slice (some ⟨b, 1, none⟩) 6 6) := by simp
          have e5 : (w3.alloc (.cells #[.slice (some ⟨g1, 0, none⟩) 1 1, .slice (some ⟨b, 1, none⟩) 6 6, .slice (some ⟨g2, 0, none⟩) 1 1] 58)).cell? ⟨w3.heap.size, 2, none⟩ = some (.slice (some ⟨g2, 0, none⟩) 1 1) := by simp
          have l3 : w3.heap.size < (w3.alloc (.cells #[.slice (some ⟨g1, 0, none⟩) 1 1, .slice (some ⟨b, 1, none⟩) 6 6, .slice (some ⟨g2, 0, none⟩) 1 1] 58)).heap.size := by simp
          replace e1 := (bN.cell (p := ⟨g1, 0, none⟩) l1).trans e1
          replace e2 := (bN.cell (p := ⟨g2, 0, none⟩) l2).trans e2
          replace l1 := Nat.lt_of_lt_of_le l1 bN.size
          replace l2 := Nat.lt_of_lt_of_le l2 bN.size
          replace bcur := bcur.trans (bN.mono bcur.size)
          clear bN
          refine hK.out _ _ (HQ.out _ bcur) (fun hHeld => ?_)
          clear hK K
          simp only [List.setIfInBounds_toArray, List.set_cons_zero, List.set_cons_succ]
          generalize (w3.alloc (.cells #[.slice (some ⟨g1, 0, none⟩) 1 1, .slice (some ⟨b, 1, none⟩) 6 6, .slice (some ⟨g2, 0, none⟩) 1 1] 58)) = w5 at e3 e4 e5 l3 e1 e2 l1 l2 bcur hHeld ⊢
          generalize w3.heap.size = g3 at e3 e4 e5 l3 ⊢
          refine wpAnyH_ready (rs := [10]) (by decide +kernel) (by simp) ?_
          refine AllReadyH.cons (o := _) rfl (fun K hK => ?_) AllReadyH.nil
          go_simp
          go_at_call 69
          refine (conc_room s b g3 g1 g2 _ l3 l1 (Nat.lt_of_lt_of_le hbl bcur.size) l2 e3 e4 e5 e1 (fun j hj => HC.out _ bcur j hj) (by rw [HFE.out]; exact e2)).mono ?_
          rintro e w6 ⟨ao, c, rfl, own6, b6⟩
          have hs6 := bcur.size
          replace bcur := bcur.trans (b6.mono bcur.size)
          clear b6 e1 e2 e3 e4 e5 l1 l2 l3
          go_wp2_with fail
          refine hK.out _ _ (HQ.out _ bcur) (fun hHeld => ?_)
          clear hK K
          simp only [List.setIfInBounds_toArray, List.set_cons_zero, List.set_cons_succ]
          refine wpAnyH_done (by decide +kernel) ?_ _
          show Oper.wp _ _ _ _ _ _
          go_simp
          go_wp2_with fail
          go_meet
          case rel => exact ⟨ao, c, rfl, own_more hs6 own6, bcur⟩
        · go_simp
          have bN : Below wD.heap.size wD (wD.alloc (.cells #[.int .i64 fl] 3)) := (Below.refl _ _).alloc (Nat.le_refl _) _
          have e2 : (wD.alloc (.cells #[.int .i64 fl] 3)).cell? ⟨wD.heap.size, 0, none⟩ = some (.int .i64 fl) := by simp
          have l2 : wD.heap.size < (wD.alloc (.cells #[.int .i64 fl] 3)).heap.size := by simp
          replace bcur := bcur.trans (bN.mono bcur.size)
          clear bN
          refine hK.out _ _ (HQ.out _ bcur) (fun hHeld => ?_)
          clear hK K
          simp only [List.setIfInBounds_toArray, List.set_cons_zero, List.set_cons_succ]
          generalize (wD.alloc (.cells #[.int .i64 fl] 3)) = w2 at e2 l2 bcur hHeld ⊢
          generalize wD.heap.size = g2 at e2 l2 ⊢
          refine wpAnyH_ready (rs := [2]) (by decide +kernel) (by simp) ?_
          refine AllReadyH.cons (o := _) rfl (fun K hK => ?_) AllReadyH.nil
          go_simp
          have bN : Below w2.heap.size w2 (w2.alloc (.cells #[.int .i64 s.p] 3)) := (Below.refl _ _).alloc (Nat.le_refl _) _
          have e1 : (w2.alloc (.cells #[.int .i64 s.p] 3)).cell? ⟨w2.heap.size, 0, none⟩ = some (.int .i64 s.p) := by simp
          have l1 : w2.heap.size < (w2.alloc (.cells #[.int .i64 s.p] 3)).heap.size := by simp
          replace e2 := (bN.cell (p := ⟨g2, 0, none⟩) l2).trans e2
          replace l2 := Nat.lt_of_lt_of_le l2 bN.size
          replace bcur := bcur.trans (bN.mono bcur.size)
          clear bN
          refine hK.out _ _ (HQ.out _ bcur) (fun hHeld => ?_)
          clear hK K
          simp only [List.setIfInBounds_toArray, List.set_cons_zero, List.set_cons_succ]
          generalize (w2.alloc (.cells #[.int .i64 s.p] 3)) = w3 at e1 l1 e2 l2 bcur hHeld ⊢
          generalize w2.heap.size = g1 at e1 l1 ⊢
          refine wpAnyH_ready (rs := [9]) (by decide +kernel) (by simp) ?_
          refine AllReadyH.cons (o := _) rfl (fun K hK => ?_) AllReadyH.nil
          go_simp
          have bN : Below w3.heap.size w3 (w3.alloc (.cells #[.slice (some ⟨g1, 0, none⟩) 1 1, .slice (some ⟨b, 1, none⟩) 6 6, .slice (some ⟨g2, 0, none⟩) 1 1] 58)) := (Below.refl _ _).alloc (Nat.le_refl _) _
          have e3 : (w3.alloc (.cells #[.slice (some ⟨g1, 0, none⟩) 1 1, .slice (some ⟨b, 1, none⟩) 6 6, .slice (some ⟨g2, 0, none⟩) 1 1] 58)).cell? ⟨w3.heap.size, 0, none⟩ = some (.slice (some ⟨g1, 0, none⟩) 1 1) := by simp
          have e4 : (w3.alloc (.cells #[.slice (some ⟨g1, 0, none⟩) 1 1, .slice (some ⟨b, 1, none⟩) 6 6, .slice (some ⟨g2, 0, none⟩) 1 1] 58)).cell? ⟨w3.heap.size, 1, none⟩ = some (.slice (some ⟨b, 1, none⟩) 6 6) := by simp
          have e5 : (w3.alloc (.cells #[.slice (some ⟨g1, 0, none⟩) 1 1, .slice (some ⟨b, 1, none⟩) 6 6, .slice (some ⟨g2, 0, none⟩) 1 1] 58)).cell? ⟨w3.heap.size, 2, none⟩ = some (.slice (some ⟨g2, 0, none⟩) 1 1) := by simp
          have l3 : w3.heap.size < (w3.alloc (.cells #[.slice (some ⟨g1, 0, none⟩) 1 1, .slice (some ⟨b, 1, none⟩) 6 6, .slice (some ⟨g2, 0, none⟩) 1 1] 58)).heap.size := by simp
          replace e1 := (bN.cell (p := ⟨g1, 0, none⟩) l1).trans e1
          replace e2 := (bN.cell (p := ⟨g2, 0, none⟩) l2).trans e2
          replace l1 := Nat.lt_of_lt_of_le l1 bN.size
          replace l2 := Nat.lt_of_lt_of_le l2 bN.size
          replace bcur := bcur.trans (bN.mono bcur.size)
          clear bN
          refine hK.out _ _ (HQ.out _ bcur) (fun hHeld => ?_)
          clear hK K
          simp only [List.setIfInBounds_toArray, List.set_cons_zero, List.set_cons_succ]
          generalize (w3.alloc (.cells #[.slice (some ⟨g1, 0, none⟩) 1 1, .slice (some ⟨b, 1, none⟩) 6 6, .slice (some ⟨g2, 0, none⟩) 1 1] 58)) = w5 at e3 e4 e5 l3 e1 e2 l1 l2 bcur hHeld ⊢
          generalize w3.heap.size = g3 at e3 e4 e5 l3 ⊢
          refine wpAnyH_ready (rs := [10]) (by decide +kernel) (by simp) ?_
          refine AllReadyH.cons (o := _) rfl (fun K hK => ?_) AllReadyH.nil
          go_simp
          go_at_call 69
          refine (conc_room s b g3 g1 g2 _ l3 l1 (Nat.lt_of_lt_of_le hbl bcur.size) l2 e3 e4 e5 e1 (fun j hj => HC.out _ bcur j hj) (by rw [HFE.out]; exact e2)).mono ?_
          rintro e w6 ⟨ao, c, rfl, own6, b6⟩
          have hs6 := bcur.size
          replace bcur := bcur.trans (b6.mono bcur.size)
          clear b6 e1 e2 e3 e4 e5 l1 l2 l3
          go_wp2_with fail
          refine hK.out _ _ (HQ.out _ bcur) (fun hHeld => ?_)
          clear hK K
          simp only [List.setIfInBounds_toArray, List.set_cons_zero, List.set_cons_succ]
          refine wpAnyH_done (by decide +kernel) ?_ _
          show Oper.wp _ _ _ _ _ _
          go_simp
          go_wp2_with fail
          go_meet
          case rel => exact ⟨ao, c, rfl, own_more hs6 own6, bcur⟩
    case rest =>
      obtain ⟨ao, c, rfl, own6, b6⟩ := hcut
      clear HC HQ
      have hb6 : Below (w.heap.size + 1) W0 wc := (hb.trans (hbx.mono (by omega))).trans (b6.mono (by omega))
      have hbw6 : Below w.heap.size w wc := hB0.trans (hb6.mono (by omega))
      have hI6 := isb_all (isb_all hI hbx) b6
      have hs6 := hb6.size
      have hq := HLn.out snRoomW _ _ _ wc hbw6 own6 (by simp [stN]) HNu.out (by decide) (by simp [stN])
      rw [show (snRoomW ++ tail (stN s)) = sroomL s from rfl] at hq
      unfold snRoomW at hq
      clear own6 b6
      go_wp2_with (first
        | (go_at_call 68; refine hq.mono ?_; rintro e w7 ⟨rfl, b7⟩; have hs7 := b7.size; clear hq)
        | (go_at_call 67; refine (writeString_any (w.heap.size + 1) (w.heap.size + 1) _ _ _ (isb_all hI6 b7) (by rw [Lib.byteCells_length, ba_size]; rw [List.length_append] at hl; omega) (by omega)).mono ?_; rintro e w8 ⟨rfl, h8, b8, _⟩))
      go_roundw
      case rel => exact ⟨n + 1, by omega, by go_num, by rw [HNx.out, sx_cells]; exact Or.inr h8, (hb6.trans (b7.mono (by omega))).trans b8⟩
      case measure => simp [intOf]; omega
  obtain rfl : n = k.rooms.length := by omega
  have hni : decide ((k.rooms.length : Int) < (k.rooms.length : Int)) = false := decide_eq_false (by omega)
  have hnn : decide (k.rooms.length < k.rooms.length) = false := decide_eq_false (by omega)
  have hI0 := hI
  obtain ⟨x1, x2⟩ := HX.out _ hb
  clear hnl hn
  go_wp2
  clear x1 x2 hnn hni
  rename World => wo
  go_loopw [40] (fun i wr => ∃ m : Nat, m ≤ us.length ∧ i = .int .i64 m ∧ Lib.IsBuilderF 134 5 (w.heap.size + 1) (w.heap.size + 1) (Lib.byteCells (sxW k m)) wr ∧ Below (w.heap.size + 1) W0 wr) (fun i _ => us.length - (intOf i).toNat)
  case atStart => exact ⟨0, Nat.zero_le _, rfl, by rw [sxW_zero]; exact hI0, hb⟩
  case round =>
  clear hI0 hI hb hbw hsz
  obtain ⟨m, hm, rfl, hI, hb⟩ := hrel
  have hbw : Below w.heap.size w wr := hB0.trans (hb.mono (by omega))
  have hsz := hb.size
  by_cases hml : m < us.length
  · have hmi : (m : Int) < (us.length : Int) := by omega
    obtain ⟨u, hu⟩ : ∃ u, us[m]? = some u := ⟨_, List.getElem?_eq_getElem hml⟩
    obtain ⟨l, hl⟩ : ∃ l, k.lines[m]? = some l := ⟨_, List.getElem?_eq_getElem (by rw [← HUL.out]; exact hml)⟩
    obtain ⟨g, cap, e, hBg, hlt, hcs⟩ := held_at H.out.wr (by omega)
    injection e with e1 _ e3
    subst e1
    subst e3
    obtain ⟨s0, s1⟩ := hcs m u hu
    obtain ⟨hul, hrd, _⟩ := H.out.at_ m u l hu hl
    obtain ⟨ao, ac, huf⟩ := hrd.form
    rw [huf] at s0 hrd
    rw [hul] at s1
    replace s0 := (hbw.cell (p := ⟨g, _, none⟩) hlt).trans s0
    replace s1 := (hbw.cell (p := ⟨g, _, none⟩) hlt).trans s1
    have HRd : Hid (Rd wr (.slice ao l.xs.length ac) l.xs) := hrd.all hbw
    have HNx : Hid (sxW k (m + 1) = sxW k m ++ (swireL l ++ [10])) := sxW_next hl
    have HNu : Hid (∀ z ∈ l.ls :: l.xs, 0 ≤ z ∧ z ≤ 100000000) := HSm.out.lines l (List.mem_of_getElem? hl)
    have hx6 : l.xs.length ≤ 6 := HSm.out.deep l (List.mem_of_getElem? hl)
    have hln := HLW.out (m + 1)
    rw [HNx.out] at hln
    have HCn : Hid (∀ (W : World) (g3 g1 : Nat), Below wr.heap.size wr W → g3 < W.heap.size → g1 < W.heap.size → W.cell? ⟨g3, 0, none⟩ = some (.slice (some ⟨g1, 0, none⟩) 1 1) → W.cell? ⟨g3, 1, none⟩ = some (.slice ao l.xs.length ac) → W.cell? ⟨g1, 0, none⟩ = some (.int .i64 l.ls) → Calls Tryz.prog 69 #[.slice (some ⟨g3, 0, none⟩) 2 2] W fun e w' => ∃ ao2 c n, e = .returned (.slice ao2 n c) ∧ w'.ownsRow W.heap.size 3 1 (.slice ao2 n c) (l.ls :: l.xs).length (ints (l.ls :: l.xs)) ∧ Below W.heap.size W w') := fun W g3 g1 hW h1 h2 c0 c1 d0 => by
      refine (conc_wire l.ls l.xs g3 g1 ac ao W hx6 h1 h2 c0 c1 d0 (HRd.out.all hW)).mono ?_
      rintro e w' ⟨ao2, c, rfl, h3, h4⟩
      exact ⟨ao2, c, _, rfl, h3, h4⟩
    clear hu hl hcs hul hrd huf
    go_wp2_with (go_at_call 69; obtain ⟨⟨y1, y2, y3⟩, y4, y5, y6⟩ := three_laid wr (.slice ao l.xs.length ac) (.int .i64 l.ls) (.int .i64 l.ls) (.slice (some ⟨wr.heap.size + 1, 0, none⟩) 1 1) (.slice ao l.xs.length ac) 100 3 58; refine (HCn.out _ _ _ y6 y4 y5 y1 y2 y3).mono ?_; rintro e w6 ⟨ao2, c, n6, rfl, own6, b6⟩; replace b6 := y6.trans (b6.mono y6.size); clear y1 y2 y3 y4 y5 y6)
    have hb6 : Below (w.heap.size + 1) W0 w6 := hb.trans (b6.mono (by omega))
    have hbw6 : Below w.heap.size w w6 := hB0.trans (hb6.mono (by omega))
    have hI6 := isb_all hI b6
    have hs6 := hb6.size
    have hq : Calls Tryz.prog 68 #[.string ⟨#[119, 105, 114, 101]⟩, .slice ao2 n6 c] w6 fun e w' => e = .returned (.string ⟨(swireL l ++ [10]).toArray⟩) ∧ Below w6.heap.size w6 w' := HLn.out snWireW _ _ _ w6 hbw6 own6 (by simp) HNu.out (by decide) (by rw [List.length_cons]; omega)
    clear own6 b6
    go_wp2_with (first
      | (go_at_call 68; refine hq.mono ?_; rintro e w7 ⟨rfl, b7⟩; have hs7 := b7.size; clear hq)
      | (go_at_call 67; refine (writeString_any (w.heap.size + 1) (w.heap.size + 1) _ _ _ (isb_all hI6 b7) (by rw [Lib.byteCells_length, ba_size]; rw [List.length_append] at hln; omega) (by omega)).mono ?_; rintro e w8 ⟨rfl, h8, b8, _⟩))
    go_roundw
    case rel => exact ⟨m + 1, by omega, by go_num, by rw [HNx.out, sx_cells]; exact Or.inr h8, (hb6.trans (b7.mono (by omega))).trans b8⟩
    case measure => simp [intOf]; omega
  obtain rfl : m = us.length := by omega
  have hmi : decide ((us.length : Int) < (us.length : Int)) = false := decide_eq_false (by omega)
  have hmm : decide (us.length < us.length) = false := decide_eq_false (by omega)
  have HE : Hid (sxW k us.length = snB k) := by show _ = _; rw [HUL.out]; exact sxW_all k
  rw [HE.out] at hI
  clear hml hm
  go_wp2_with (go_at_call 71; refine (Tryz.Builder_String_any_k (w.heap.size + 1) (w.heap.size + 1) _ _ hI (by omega)).mono ?_; rintro e w9 ⟨rfl, _, b9, _⟩)
  go_ret
  exact ⟨rfl, hB0.trans ((hb.trans b9).mono (by omega))⟩
end Go.Proofs.YtajfgmlockjmhaiGreatDoor
