/-
  trace.Parse: a text as events; of any text.
-/
import Derived.Test.YtkoomlnndnjllahGreatDoorTcRead
import Derived.Test.YtkoomlnndnjllahGreatDoorJb3
import Derived.Test.YtkoomlnndnjllahGreatDoorJb5
import Derived.Maps.AppendAt
import Derived.Test.YtkoomlnndnjllahGreatDoorJb1
namespace Go.Proofs.YtkoomlnndnjllahGreatDoor
open Go.RowKit Go.Shelf
attribute [local go_sem] Oper.semAt_some

set_option maxRecDepth 1000000 in
set_option maxHeartbeats 8000000 in
theorem tparse_any (s : ByteArray) (w : World) (ht : Tabs2 w) (hl : s.size ≤ 140737488355328) :
    Calls Tryz.prog 19 #[.string s] w fun e w' => ∃ vv, e = .returned (.tuple #[vv, wErr (evP s.data.toList).2]) ∧ Wrs w' vv (evP s.data.toList).1 ∧ Below w.heap.size w w' := by
  obtain ⟨ii, hi, hz0, hz1, hz2⟩ := info_parts infoEv
  have hsl : s.data.toList.length = s.size := by simp
  refine (callsIn_wide (n := 4)).1 ?_
  refine callsIn_of_wp_marks Tryz.func19 rfl trivial ?_ rfl
  simp only [Tryz.ntmps19, List.size_toArray, List.length_cons, List.length_nil, Nat.reduceAdd, Nat.reduceSub, Array.replicate_succ, Array.replicate_zero, List.push_toArray, List.append_toArray, List.nil_append, List.cons_append]
  gi_wp2_with (refine ⟨trivial, ?_⟩; gi_at_call 42; refine (callsIn_wide.2 (lines_any s _)).mono ?_; rintro e w3 ⟨rfl, hw3⟩; subst hw3)
  obtain ⟨W0, hW0⟩ : ∃ W0, (((w.alloc (.cells #[.slice none 0 0] 27)).alloc (.cells #[.nilIface] 35)).alloc (.cells #[.slice none 0 0] 27)).alloc (.cells #[.string s] 9) = W0 := ⟨_, rfl⟩
  obtain ⟨z1, z2, z3, z4, bw0, _⟩ := four_boxes (w2 := W0) (w := w) (by rw [hW0]; exact Below.refl _ _)
  have hWs : W0.heap.size = w.heap.size + 4 := by rw [← hW0]; simp
  rw [hW0]
  clear hW0
  have z4' : Boxed W0 (w.heap.size + 1 + 1 + 1) 9 (encS s.data.toList) := z4
  refine wpIn_rangeState (P := Tryz.prog) 5 (Bi := w.heap.size + 1 + 1 + 1) (m := 1) rfl (by omega) (gf := 71) (lb := #[.pointer (some ⟨w.heap.size + 1 + 1 + 1, 0, none⟩)]) rfl trivial (enters_of Tryz.func71 (by kernel_rfl) rfl)
    (lines_givesN 140737488355328 (Nat.le_refl _) s.data.toList (w.heap.size + 1 + 1 + 1) W0 z4' (by omega)) (by omega) (by omega)
    (fun pre W => (∃ os vv, evsRd (pre.map (·.1)) = some os ∧ Boxed W (w.heap.size + 1 + 1) 27 vv ∧ W.ownsRow (w.heap.size + 4) 32 4 vv (os.take 2001).length (wrCells (os.take 2001))) ∧ (Boxed W w.heap.size 27 (.slice none 0 0) ∧ Boxed W (w.heap.size + 1) 35 .nilIface) ∧ ((Below w.heap.size w W ∧ w.heap.size ≤ W.heap.size) ∧ w.heap.size + 4 ≤ W.heap.size))
    (fun pre W => (∃ q p, pre.map (·.1) = q ++ [p] ∧ evRd p = none) ∧ (Boxed W w.heap.size 27 (.slice none 0 0) ∧ Boxed W (w.heap.size + 1) 35 (.iface 85 (.int .i64 2))) ∧ (Below w.heap.size w W ∧ w.heap.size ≤ W.heap.size))
    ?hI ?hIx ?h0 ?assign ?body ?done ?stop
  case hI =>
    refine Steady.and (fun s W W' row hs hg hr => ?_) (Steady.and (Steady.and (steady_boxed _ _ (fun _ => _) (by omega)) (steady_boxed _ _ (fun _ => _) (by omega))) (Steady.and (steady_below (by omega) (by omega)) (fun s W W' row hs hg hr => Nat.le_trans hs hg.size)))
    obtain ⟨os, vv, h1, h2, h3⟩ := hs
    exact ⟨os, vv, h1, steady_boxed (B := W0.heap.size) (w.heap.size + 1 + 1) 27 (fun (_ : Unit) => vv) (by omega) () W W' row h2 hg hr, own_steady h3 hg hr (by omega)⟩
  case hIx =>
    exact Steady.and (steady_pure _ _ _) (Steady.and (Steady.and (steady_boxed _ _ (fun _ => _) (by omega)) (steady_boxed _ _ (fun _ => _) (by omega))) (steady_below (by omega) (by omega)))
  case h0 => exact ⟨⟨[], _, rfl, z3, World.ownsRow_nil _ _ _ _⟩, ⟨z1, z2⟩, ⟨bw0, by omega⟩, by omega⟩
  case assign =>
    intro l x W K hK
    simp only [List.setIfInBounds_toArray, List.set_cons_zero, List.set_cons_succ] at hK
    gi_wp2
    exact hK
  case body =>
    rintro l pre x W ⟨⟨os, vv, hos, hbv, hown⟩, ⟨q1, q2⟩, ⟨hb, hb'⟩, hsz3⟩ hlen
    simp only [List.setIfInBounds_toArray, List.set_cons_zero, List.set_cons_succ]
    have hrd : Calls Tryz.prog 43 #[encS x.1] W fun e w' => e = .returned (evRes (evRd x.1)) ∧ Below W.heap.size W w' := by
      have := tread_any ⟨x.1.toArray⟩ W (ht.all hb) (by rw [ba_size']; exact x.2)
      rwa [show bl ⟨x.1.toArray⟩ = x.1 by unfold bl; simp] at this
    cases hx : evRd x.1 with
    | none =>
      rw [hx] at hrd
      have HX : Hid (evRd x.1 = none) := hx
      unfold evRes at hrd
      clear hx
      gi_wp2_with (refine ⟨trivial, ?_⟩; gi_at_call 43; refine (CallsIn.inRound l (callsIn_wide.2 hrd)).mono ?_; rintro e W2 ⟨rfl, b2⟩; have e1 := (b2.block _ q1.lt).trans q1; have e2 := (b2.block _ q2.lt).trans q2; have c1 := Boxed.cell e1; have c2 := Boxed.cell e2; have f1 := Boxed.frozen e1; have f2 := Boxed.frozen e2; have l1 := Boxed.lt e1; have l2 := Boxed.lt e2; clear hrd)
      have bW2 : Below w.heap.size w W2 := hb.trans (b2.mono hb')
      refine ⟨(keepsFrom_below b2).trans (((KeepsOthers.setCell _ _ _).trans ((KeepsOthers.setCell _ _ _).trans (KeepsOthers.alloc _ _))).from _), ⟨pre.map (·.1), x.1, by simp, HX.out⟩, ⟨?_, ?_⟩, ?_, ?_⟩
      · exact ((Boxed.set _ e1).other (by omega) _).alloc _
      · exact ((Boxed.other e2 (by omega) _).set _).alloc _
      · exact ((bW2.setCell (p := ⟨w.heap.size, 0, none⟩) (Nat.le_refl _) _).setCell (p := ⟨w.heap.size + 1, 0, none⟩) (by simp) _).alloc (by simp only [World.setCell, Array.size_modify]; exact Nat.le_trans hb' b2.size) _
      · simp only [World.size_alloc, World.setCell, Array.size_modify]; have := b2.size; omega
    | some o =>
      rw [hx] at hrd
      have HX : Hid (evsRd ((pre ++ [x]).map (·.1)) = some (os ++ [o])) := by show _ = _; rw [List.map_append]; exact evsRd_snoc _ os x.1 o hos hx
      unfold evRes at hrd
      simp only at hrd
      clear hx hos
      obtain ⟨T, hT⟩ : ∃ T, T = os.take 2001 := ⟨_, rfl⟩
      have hTl : T.length = min 2001 os.length := by rw [hT]; simp
      rw [← hT] at hown
      obtain ⟨ao, nn, cap, hvv⟩ : ∃ ao nn cap, vv = .slice ao nn cap := by
        rcases hown.2 with ⟨h, _⟩ | ⟨g, cap, cur, h, _⟩
        · exact ⟨_, _, _, h⟩
        · exact ⟨_, _, _, h⟩
      have hnn : nn = T.length := by
        rcases hown.2 with ⟨h, h0⟩ | ⟨g, cap', cur, h, _⟩
        · rw [hvv] at h; cases h; exact h0.symm
        · rw [hvv] at h; cases h; rfl
      subst hvv
      by_cases hge : 2000 < os.length
      · have hnn' : ¬ (nn : Int) ≤ 2000 := by omega
        have HT : Hid ((os ++ [o]).take 2001 = T) := by show _ = _; rw [hT]; exact ev_take_ge hge
        clear hnn hge hTl hT
        gi_wp2_with (refine ⟨trivial, ?_⟩; gi_at_call 43; refine (CallsIn.inRound l (callsIn_wide.2 hrd)).mono ?_; rintro e W2 ⟨rfl, b2⟩; have gv := (b2.block _ hbv.lt).trans hbv; have cv := Boxed.cell gv; have lv := Boxed.lt gv; clear hrd)
        have b2' : Below W.heap.size W (W2.alloc (.cells #[.int .i64 o.1, .int .i64 o.2.1, .int .i64 o.2.2.1, .int .i64 o.2.2.2] 32)) := b2.alloc b2.size _
        exact ⟨keepsFrom_below b2', fun j hj0 hj1 => b2'.block j (by omega), ⟨os ++ [o], _, HX.out, (b2'.block _ hbv.lt).trans hbv, by rw [HT.out]; exact own_all hown b2'⟩, ⟨(b2'.block _ q1.lt).trans q1, (b2'.block _ q2.lt).trans q2⟩, ⟨hb.trans (b2'.mono hb'), Nat.le_trans hb' b2'.size⟩, Nat.le_trans hsz3 b2'.size⟩
      · have hnn' : (nn : Int) ≤ 2000 := by omega
        have HT : Hid ((os ++ [o]).take 2001 = T ++ [o]) := by show _ = _; rw [hT]; exact ev_take_lt (by omega)
        have hnl : T.length ≤ 2000 := by omega
        clear hnn hge hTl hT
        gi_wp2_with (first | (refine ⟨trivial, ?_⟩; gi_at_call 43; refine (CallsIn.inRound l (callsIn_wide.2 hrd)).mono ?_; rintro e W2 ⟨rfl, b2⟩; have gv := (b2.block _ hbv.lt).trans hbv; have cv := Boxed.cell gv; have lv := Boxed.lt gv; have fv := Boxed.frozen gv; have hown2 := own_all hown b2; have hs2 := b2.size; clear hrd hown) | (gi_at_builtin; refine wpListIn_append_own _ rfl _ _ 27 rfl (w.heap.size + 4) 32 ii (.agg #[.int .i64 0, .int .i64 0, .int .i64 0, .int .i64 0]) 4 32 Tryz.underlying27 hi hz0 hz1 hz2 rfl (by decide) _ _ _ rfl ((hown2.alloc _).alloc _) ⟨W2.heap.size + 1, 0, none⟩ 1 1 [.int .i64 o.1, .int .i64 o.2.1, .int .i64 o.2.2.1, .int .i64 o.2.2.2] rfl rfl (wr_new (by simp) _ _ _ _ _) (four_one _ _ _ _) (by unfold maxLen; omega) (by omega) (by simp; omega) ?_; intro v' w1 hown' hgrow _; obtain ⟨g', cap', rfl⟩ := ownsRow_succ hown'; have hv1 := Boxed.kept (Boxed.alloc (Boxed.alloc gv _) _) hgrow (Boxed.not_row gv (by decide) hown2); have cv1 := hv1.cell; have fv1 := hv1.frozen))
        have b2' : Below W.heap.size W (W2.alloc (.cells #[.int .i64 o.1, .int .i64 o.2.1, .int .i64 o.2.2.1, .int .i64 o.2.2.2] 32)) := b2.alloc b2.size _
        obtain ⟨r1, r2, r3, r4, r5, r6⟩ := app_step b2' (show w.heap.size + 1 + 1 < w.heap.size + 4 by omega) hsz3 (Boxed.alloc gv _) (by decide) (hown2.alloc _) hown' hgrow
        refine ⟨r1.from _, fun j hj0 hj1 => r2 j (by omega) (by omega), ⟨os ++ [o], _, HX.out, r3, by rw [HT.out, List.length_append, wrCells_snoc]; exact r4⟩, ⟨(r2 _ (by omega) (by omega)).trans q1, (r2 _ (by omega) (by omega)).trans q2⟩, ⟨hb.trans (r5.mono (by omega)), by omega⟩, by omega⟩
  case done =>
    rintro D xs W hD hxs ⟨⟨os, vv, hos, hbv, hown⟩, ⟨q1, q2⟩, ⟨hb, hb'⟩, hsz3⟩ hK
    rw [hxs] at hos
    have hops := evs_of_own hown
    have hck := evcheck_any _ vv W hops
    obtain ⟨ao, cap, hvv⟩ := hops.form
    subst hvv
    have cv := hbv.cell
    have c1 := q1.cell
    have c2 := q2.cell
    have f1 := q1.frozen
    have f2 := q2.frozen
    rw [evchk_take] at hck
    clear c1 c2 f1 f2
    by_cases h0 : (evchk os) = 0
    · have HP : Hid (evP s.data.toList = (os, 0)) := by
        show _ = _
        rw [evP_byline, hos]
        exact evR_ok h0
      have HT : Hid (os.take 2001 = os) := ev_take_ok h0
      rw [h0, show wErr 0 = .nilIface from rfl] at hck
      obtain ⟨T, hT⟩ : ∃ T, T = os.take 2001 := ⟨_, rfl⟩
      rw [← hT] at hck hops cv hown hbv
      have HT2 : Hid (T = os) := hT.trans HT.out
      clear hos h0 hT
      gi_wp2_with (refine ⟨trivial, ?_⟩; gi_at_call 35; refine (callsIn_wide.2 hck).mono ?_; rintro e W2 ⟨rfl, b2⟩; have e1 := (b2.block _ q1.lt).trans q1; have e2 := (b2.block _ q2.lt).trans q2; have ev := (b2.block _ hbv.lt).trans hbv; have c1 := Boxed.cell e1; have c2 := Boxed.cell e2; have f1 := Boxed.frozen e1; have f2 := Boxed.frozen e2; have c3 := Boxed.cell ev; clear hck)
      obtain ⟨W4, hW4⟩ : ∃ W4, (W2.setCell ⟨w.heap.size, 0, none⟩ (.slice ao T.length cap)).setCell ⟨w.heap.size + 1, 0, none⟩ .nilIface = W4 := ⟨_, rfl⟩
      rw [hW4]
      have hK2 : W2.heap[D]? = some (.deferred (some [])) := (b2.block _ (Array.getElem?_eq_some_iff.1 hK).1).trans hK
      have p1 : Boxed W4 w.heap.size 27 (.slice ao T.length cap) := by rw [← hW4]; exact (Boxed.set _ e1).other (by omega) _
      have p2 : Boxed W4 (w.heap.size + 1) 35 .nilIface := by rw [← hW4]; exact (Boxed.other e2 (by omega) _).set _
      have pK : W4.heap[D]? = some (.deferred (some [])) := by rw [← hW4]; exact ((KeepsOthers.setCell _ _ _).trans (KeepsOthers.setCell _ _ _)).same D _ hK2 rfl
      have pb : Below w.heap.size w W4 := by rw [← hW4]; exact ((hb.trans (b2.mono hb')).setCell (p := ⟨w.heap.size, 0, none⟩) (Nat.le_refl _) _).setCell (p := ⟨w.heap.size + 1, 0, none⟩) (by simp) _
      have po : W4.ownsRow (w.heap.size + 4) 32 4 (.slice ao T.length cap) T.length (wrCells T) := by
        rw [← hW4]
        exact ownsRow_setCell_below (ownsRow_setCell_below (own_all hown b2) (by simp) _) (by simp) _
      clear hW4
      have u1 := Boxed.kept p1 (grownBy_putObj' W4 D (.deferred none)) (fun e => by cases e; omega)
      have u2 := Boxed.kept p2 (grownBy_putObj' W4 D (.deferred none)) (fun e => by cases e; omega)
      have d1 := u1.cell
      have d2 := u2.cell
      refine ⟨by simp, .inl ⟨_, _, rfl, run_takeDeferred pK, ?_⟩⟩
      refine ⟨.tuple #[.slice ao T.length cap, .nilIface], ?_, .slice ao T.length cap, ?_, ?_, ?_⟩
      · simp [results, Tryz.results19, go_sem, d1, d2]
      · rw [HP.out]; rfl
      · rw [HP.out, ← HT2.out]; exact evs_of_own (ownsRow_putObj po _ pK rfl)
      · exact pb.trans (belowK_b (w := w) (Nat.le_refl _) W4 D _ _ (by omega) pK rfl rfl)
    · have HP : Hid (evP s.data.toList = ([], evchk os)) := by
        show _ = _
        rw [evP_byline, hos]
        exact evR_err h0
      have HE : Hid (wErr (evchk os) = .iface 85 (.int .i64 (evchk os))) := wErr_not h0
      rw [HE.out] at hck
      obtain ⟨T, hT⟩ : ∃ T, T = os.take 2001 := ⟨_, rfl⟩
      rw [← hT] at hck hops cv hown hbv
      clear hos h0 hT
      gi_wp2_with (refine ⟨trivial, ?_⟩; gi_at_call 35; refine (callsIn_wide.2 hck).mono ?_; rintro e W2 ⟨rfl, b2⟩; have e1 := (b2.block _ q1.lt).trans q1; have e2 := (b2.block _ q2.lt).trans q2; have c1 := Boxed.cell e1; have c2 := Boxed.cell e2; have f1 := Boxed.frozen e1; have f2 := Boxed.frozen e2; clear hck)
      obtain ⟨W4, hW4⟩ : ∃ W4, (W2.setCell ⟨w.heap.size, 0, none⟩ (.slice none 0 0)).setCell ⟨w.heap.size + 1, 0, none⟩ (.iface 85 (.int .i64 (evchk os))) = W4 := ⟨_, rfl⟩
      rw [hW4]
      have hK2 : W2.heap[D]? = some (.deferred (some [])) := (b2.block _ (Array.getElem?_eq_some_iff.1 hK).1).trans hK
      have p1 : Boxed W4 w.heap.size 27 (.slice none 0 0) := by rw [← hW4]; exact (Boxed.set _ e1).other (by omega) _
      have p2 : Boxed W4 (w.heap.size + 1) 35 (.iface 85 (.int .i64 (evchk os))) := by rw [← hW4]; exact (Boxed.other e2 (by omega) _).set _
      have pK : W4.heap[D]? = some (.deferred (some [])) := by rw [← hW4]; exact ((KeepsOthers.setCell _ _ _).trans (KeepsOthers.setCell _ _ _)).same D _ hK2 rfl
      have pb : Below w.heap.size w W4 := by rw [← hW4]; exact ((hb.trans (b2.mono hb')).setCell (p := ⟨w.heap.size, 0, none⟩) (Nat.le_refl _) _).setCell (p := ⟨w.heap.size + 1, 0, none⟩) (by simp) _
      clear hW4
      have u1 := Boxed.kept p1 (grownBy_putObj' W4 D (.deferred none)) (fun e => by cases e; omega)
      have u2 := Boxed.kept p2 (grownBy_putObj' W4 D (.deferred none)) (fun e => by cases e; omega)
      have d1 := u1.cell
      have d2 := u2.cell
      refine ⟨by simp, .inl ⟨_, _, rfl, run_takeDeferred pK, ?_⟩⟩
      refine ⟨.tuple #[.slice none 0 0, .iface 85 (.int .i64 (evchk os))], ?_, .slice none 0 0, ?_, ?_, ?_⟩
      · simp [results, Tryz.results19, go_sem, d1, d2]
      · rw [HP.out]; simp only; rw [HE.out]
      · rw [HP.out]; exact Or.inl ⟨rfl, _, _, rfl⟩
      · exact pb.trans (belowK_b (w := w) (Nat.le_refl _) W4 D _ _ (by omega) pK rfl rfl)
  case stop =>
    rintro D pre W hD hpre ⟨⟨q, p, hpq, hp⟩, ⟨q1, q2⟩, hb, hb'⟩ hK
    have c1 := q1.cell
    have c2 := q2.cell
    have HN : Hid (evP s.data.toList = ([], 2)) := by
      obtain ⟨r, hr⟩ := hpre
      show _ = _
      rw [evP_byline, ← hr, hpq, List.append_assoc, List.singleton_append, evsRd_bad hp]
      rfl
    clear hp hpre hpq
    gi_wp2
    have u1 := Boxed.kept q1 (grownBy_putObj' W D (.deferred none)) (fun e => by cases e; omega)
    have u2 := Boxed.kept q2 (grownBy_putObj' W D (.deferred none)) (fun e => by cases e; omega)
    have d1 := u1.cell
    have d2 := u2.cell
    refine ⟨by simp, .inl ⟨_, _, rfl, run_takeDeferred hK, ?_⟩⟩
    refine ⟨.tuple #[.slice none 0 0, .iface 85 (.int .i64 2)], ?_, .slice none 0 0, ?_, ?_, ?_⟩
    · simp [results, Tryz.results19, go_sem, d1, d2]
    · rw [HN.out]; rfl
    · rw [HN.out]; exact Or.inl ⟨rfl, _, _, rfl⟩
    · exact hb.trans (belowK_b (w := w) (Nat.le_refl _) W D _ _ (by omega) hK rfl rfl)
/-- Parse does what the laws of traces ask of it. -/
theorem trc_parse {G : World → Prop} (hT : ∀ w, G w → Tabs2 w) : TrcParse G := fun t W hG ht => tparse_any t W (hT W hG) ht
end Go.Proofs.YtkoomlnndnjllahGreatDoor
