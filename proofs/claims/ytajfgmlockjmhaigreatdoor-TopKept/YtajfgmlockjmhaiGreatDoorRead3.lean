/-
  words.Read at three digits: a line as a word, and numbers; of any line.
-/
import Derived.Test.YtajfgmlockjmhaiGreatDoorJt6
import Derived.Test.YtajfgmlockjmhaiGreatDoorJt7
import Derived.Maps.AppendAt
namespace Go.Proofs.YtajfgmlockjmhaiGreatDoor
open Go.RowKit Go.Shelf
attribute [local go_sem] Oper.semAt_some

set_option maxRecDepth 1000000 in
set_option maxHeartbeats 4000000 in
theorem read3_open (s : ByteArray) (w : World) (hs : ∀ u, s.data.toList ≠ u ++ [10]) (hl : s.size ≤ 1099511627776) :
    Calls Tryz.prog 75 #[.string s, .int .i64 3] w fun e w' => e = .returned (.tuple #[.string ⟨#[]⟩, .slice none 0 0, .bool false]) ∧ Below w.heap.size w w' := by
  have hsu := fun w => suffix_no s w hs hl
  clear hs
  refine (callsIn_wide (n := 4)).1 ?_
  refine callsIn_of_wp_marks Tryz.func75 rfl trivial ?_ rfl
  simp only [Tryz.ntmps75, List.size_toArray, List.length_cons, List.length_nil, Nat.reduceAdd, Nat.reduceSub, Array.replicate_succ, Array.replicate_zero, List.push_toArray, List.append_toArray, List.nil_append, List.cons_append]
  gi_wp2_with (refine ⟨trivial, ?_⟩; gi_at_call 111; refine (callsIn_wide.2 (hsu _)).mono ?_; rintro e w' ⟨⟨t, rfl⟩, hw'⟩; subst hw')
  refine ⟨.tuple #[.string ⟨#[]⟩, .slice none 0 0, .bool false], by simp [results, Tryz.results75, go_sem], rfl, ?_⟩
  exact ((((Below.refl _ w).alloc (Nat.le_refl _) _).alloc (by simp) _).alloc (by simp; omega) _).alloc (by simp; omega) _

set_option maxRecDepth 1000000 in
set_option maxHeartbeats 4000000 in
theorem read3_word (s : ByteArray) (u : List UInt8) (w : World) (hs : s.data.toList = u ++ [10]) (hu : (32 : UInt8) ∉ u) (hl : s.size ≤ 1099511627776) :
    Calls Tryz.prog 75 #[.string s, .int .i64 3] w fun e w' => e = .returned (.tuple #[.string ⟨u.toArray⟩, .slice none 0 0, .bool true]) ∧ Below w.heap.size w w' := by
  have hsu := fun w => suffix_yes s u w hs hl
  have hcu := fun w => cut1_no ⟨u.toArray⟩ w (by simpa using hu)
  clear hs hu
  refine (callsIn_wide (n := 4)).1 ?_
  refine callsIn_of_wp_marks Tryz.func75 rfl trivial ?_ rfl
  simp only [Tryz.ntmps75, List.size_toArray, List.length_cons, List.length_nil, Nat.reduceAdd, Nat.reduceSub, Array.replicate_succ, Array.replicate_zero, List.push_toArray, List.append_toArray, List.nil_append, List.cons_append]
  gi_wp2_with (first | (refine ⟨trivial, ?_⟩; gi_at_call 111; refine (callsIn_wide.2 (hsu _)).mono ?_; rintro e w' ⟨rfl, hw'⟩; subst hw') | (refine ⟨trivial, ?_⟩; gi_at_call 112; refine (callsIn_wide.2 (hcu _)).mono ?_; rintro e w2 ⟨rfl, b2⟩; obtain ⟨x1, x2, x3, x4, bw, hsz⟩ := four_boxes b2; have c1 := x2.cell; have c2 := x3.cell; have c3 := x4.cell; have f1 := x2.frozen; have f2 := x3.frozen; have f3 := x4.frozen; clear b2 x1))
  refine ⟨.tuple #[.string ⟨u.toArray⟩, .slice none 0 0, .bool true], ?_, rfl, ?_⟩
  · simp [results, Tryz.results75, go_sem, c1, c2, c3]
  · exact ((bw.setCell (p := ⟨w.heap.size + 1, 0, none⟩) (by simp) _).setCell (p := ⟨w.heap.size + 1 + 1, 0, none⟩) (by simp; omega) _).setCell (p := ⟨w.heap.size + 1 + 1 + 1, 0, none⟩) (by simp; omega) _

set_option maxRecDepth 1000000 in
set_option maxHeartbeats 4000000 in
theorem splitSeq3_any (s : ByteArray) (w : World) :
    Calls Tryz.prog 113 #[.string s, .string ⟨#[32]⟩] w fun e w' => e = .returned (.func (.func 165) #[] #[.pointer (some ⟨w.heap.size + 1, 0, none⟩), .pointer (some ⟨w.heap.size, 0, none⟩), .pointer (some ⟨w.heap.size + 1 + 1, 0, none⟩)]) ∧
      w' = ((w.alloc (.cells #[.string s] 9)).alloc (.cells #[.string ⟨#[32]⟩] 9)).alloc (.cells #[.int .i64 0] 3) := by
  go_enter Tryz.func113, Tryz.ntmps113
  go_wp2
  go_ret
  exact ⟨rfl, rfl⟩

set_option maxRecDepth 1000000 in
set_option maxHeartbeats 4000000 in
theorem read3_nums (s : ByteArray) (a v : List UInt8) (w : World) (ht : Tabs2 w) (hs : s.data.toList = (a ++ 32 :: v) ++ [10]) (ha : (32 : UInt8) ∉ a) (hl : s.size ≤ 1099511627776) :
    Calls Tryz.prog 75 #[.string s, .int .i64 3] w fun e w' =>
      ((∃ ns vv, nums3 (cutB 32 v) = some ns ∧ e = .returned (.tuple #[.string ⟨a.toArray⟩, vv, .bool true]) ∧ w'.ownsRow w.heap.size 3 1 vv ns.length (ns.map (Value.int .i64))) ∨
       (nums3 (cutB 32 v) = none ∧ e = .returned (.tuple #[.string ⟨#[]⟩, .slice none 0 0, .bool false]))) ∧ Below w.heap.size w w' := by
  obtain ⟨ii, hi, hz0, hz1, hz2⟩ := info_parts infoIntC
  have hsz : s.size = a.length + v.length + 2 := by
    have : s.data.toList.length = s.size := by simp
    rw [← this, hs]; simp; omega
  have hsu := fun w => suffix_yes s (a ++ 32 :: v) w hs hl
  have hcu := fun w => cut1_yes ⟨(a ++ 32 :: v).toArray⟩ a v w (by simp) ha (by rw [ba_size']; simp; omega)
  clear hs ha
  refine (callsIn_wide (n := 4)).1 ?_
  refine callsIn_of_wp_marks Tryz.func75 rfl trivial ?_ rfl
  simp only [Tryz.ntmps75, List.size_toArray, List.length_cons, List.length_nil, Nat.reduceAdd, Nat.reduceSub, Array.replicate_succ, Array.replicate_zero, List.push_toArray, List.append_toArray, List.nil_append, List.cons_append]
  gi_wp2_with (first | (refine ⟨trivial, ?_⟩; gi_at_call 111; refine (callsIn_wide.2 (hsu _)).mono ?_; rintro e w' ⟨rfl, hw'⟩; subst hw') | (refine ⟨trivial, ?_⟩; gi_at_call 112; refine (callsIn_wide.2 (hcu _)).mono ?_; rintro e w2 ⟨rfl, b2⟩; obtain ⟨x1, x2, x3, x4, bw, hsz2⟩ := four_boxes b2; clear b2) | (refine ⟨trivial, ?_⟩; gi_at_call 113; refine (callsIn_wide.2 (splitSeq3_any _ _)).mono ?_; rintro e w3 ⟨rfl, hw3⟩; subst hw3))
  obtain ⟨W0, hW0⟩ : ∃ W0, (((w2.alloc (.cells #[.slice none 0 0] 58)).alloc (.cells #[.string ⟨v.toArray⟩] 9)).alloc (.cells #[.string ⟨#[32]⟩] 9)).alloc (.cells #[.int .i64 0] 3) = W0 := ⟨_, rfl⟩
  have y0 : Boxed W0 w2.heap.size 58 (.slice none 0 0) ∧ Boxed W0 (w2.heap.size + 1) 9 (encS v) ∧ Boxed W0 (w2.heap.size + 1 + 1) 9 (.string ⟨#[32]⟩) ∧ Boxed W0 (w2.heap.size + 1 + 1 + 1) 3 (.int .i64 0) ∧ W0.heap.size = w2.heap.size + 4 ∧ Below w2.heap.size w2 W0 := by
    have h0 := Boxed.new w2 58 (.slice none 0 0)
    have h1 := Boxed.new (w2.alloc (.cells #[.slice none 0 0] 58)) 9 (encS v)
    have h2 := Boxed.new ((w2.alloc (.cells #[.slice none 0 0] 58)).alloc (.cells #[encS v] 9)) 9 (.string ⟨#[32]⟩)
    have h3 := Boxed.new (((w2.alloc (.cells #[.slice none 0 0] 58)).alloc (.cells #[encS v] 9)).alloc (.cells #[.string ⟨#[32]⟩] 9)) 3 (.int .i64 0)
    simp only [World.size_alloc] at h1 h2 h3
    rw [← hW0]
    exact ⟨((h0.alloc _).alloc _).alloc _, (h1.alloc _).alloc _, h2.alloc _, h3, by simp, ((((Below.refl _ w2).alloc (Nat.le_refl _) _).alloc (by simp) _).alloc (by simp; omega) _).alloc (by simp; omega) _⟩
  rw [hW0]
  obtain ⟨y1, y2, y3, y4, hWs, bW⟩ := y0
  have z1 : Boxed W0 w.heap.size 3 (.int .i64 3) := (bW.block _ x1.lt).trans x1
  have z2 : Boxed W0 (w.heap.size + 1) 9 (.string ⟨#[]⟩) := (bW.block _ x2.lt).trans x2
  have z3 : Boxed W0 (w.heap.size + 1 + 1) 58 (.slice none 0 0) := (bW.block _ x3.lt).trans x3
  have z4 : Boxed W0 (w.heap.size + 1 + 1 + 1) 4 (.bool false) := (bW.block _ x4.lt).trans x4
  have bw0 : Below w.heap.size w W0 := bw.trans (bW.mono (by omega))
  clear x1 x2 x3 x4 bW hW0 hsu hcu bw
  have hBi : Boxed W0 (w2.heap.size + 1 + 2) 3 (.int .i64 0) := y4
  refine wpIn_rangeState (P := Tryz.prog) 13 (Bi := w2.heap.size + 1) (m := 3) rfl (by omega) (gf := 165) (lb := #[.pointer (some ⟨w2.heap.size + 1 + 1, 0, none⟩), .pointer (some ⟨w2.heap.size + 1, 0, none⟩), .pointer (some ⟨w2.heap.size + 1 + 2, 0, none⟩)]) rfl trivial (enters_of Tryz.func165 (by kernel_rfl) rfl)
    (split_gives v (w2.heap.size + 1) W0 y2 y3 hBi (by omega)) (by omega) (by omega)
    (fun pre W => (∃ ns vv, nums3 pre = some ns ∧ Boxed W w2.heap.size 58 vv ∧ W.ownsRow (w2.heap.size + 4) 3 1 vv ns.length (ns.map (Value.int .i64))) ∧ ((Boxed W w.heap.size 3 (.int .i64 3) ∧ Boxed W (w.heap.size + 1) 9 (.string ⟨#[]⟩)) ∧ (Boxed W (w.heap.size + 1 + 1) 58 (.slice none 0 0) ∧ Boxed W (w.heap.size + 1 + 1 + 1) 4 (.bool false))) ∧ ((Below w.heap.size w W ∧ w.heap.size ≤ W.heap.size) ∧ w2.heap.size + 4 ≤ W.heap.size))
    (fun pre W => (∃ q p, pre = q ++ [p] ∧ numB3 p = none) ∧ (Boxed W (w.heap.size + 1) 9 (.string ⟨#[]⟩) ∧ (Boxed W (w.heap.size + 1 + 1) 58 (.slice none 0 0) ∧ Boxed W (w.heap.size + 1 + 1 + 1) 4 (.bool false))) ∧ (Below w.heap.size w W ∧ w.heap.size ≤ W.heap.size))
    ?hI ?hIx ?h0 ?assign ?body ?done ?stop
  case hI =>
    refine Steady.and (fun s W W' row hs hg hr => ?_) (Steady.and (Steady.and (Steady.and (steady_boxed _ _ (fun _ => _) (by omega)) (steady_boxed _ _ (fun _ => _) (by omega))) (Steady.and (steady_boxed _ _ (fun _ => _) (by omega)) (steady_boxed _ _ (fun _ => _) (by omega)))) (Steady.and (steady_below (by omega) (by omega)) (fun s W W' row hs hg hr => Nat.le_trans hs hg.size)))
    obtain ⟨ns, vv, h1, h2, h3⟩ := hs
    exact ⟨ns, vv, h1, steady_boxed (B := W0.heap.size) w2.heap.size 58 (fun (_ : Unit) => vv) (by omega) () W W' row h2 hg hr, own_steady h3 hg hr (by omega)⟩
  case hIx =>
    exact Steady.and (steady_pure _ _ _) (Steady.and (Steady.and (steady_boxed _ _ (fun _ => _) (by omega)) (Steady.and (steady_boxed _ _ (fun _ => _) (by omega)) (steady_boxed _ _ (fun _ => _) (by omega)))) (steady_below (by omega) (by omega)))
  case h0 => exact ⟨⟨[], _, rfl, y1, World.ownsRow_nil _ _ _ _⟩, ⟨⟨z1, z2⟩, z3, z4⟩, ⟨bw0, by omega⟩, by omega⟩
  case assign =>
    intro l x W K hK
    simp only [List.setIfInBounds_toArray, List.set_cons_zero, List.set_cons_succ] at hK
    gi_wp2
    exact hK
  case body =>
    rintro l pre x W ⟨⟨ns, vv, hns, hbv, hown⟩, ⟨⟨q1, q2⟩, q3, q4⟩, ⟨hb, hb'⟩, hsz3⟩ hlen
    simp only [List.setIfInBounds_toArray, List.set_cons_zero, List.set_cons_succ]
    have hnl : ns.length ≤ pre.length := Nat.le_of_eq (n3_len hns)
    have htW : Tabs2 W := ht.all hb
    have hc1 := q1.cell
    cases hx : numB3 x with
    | none =>
      have hnum : Calls Tryz.prog 114 #[encS x, .int .i64 3] W fun e w' => e = .returned (.tuple #[.int .i64 0, .bool false]) ∧ Below W.heap.size W w' := by
        have := number3_any ⟨x.toArray⟩ W htW
        simp only [hx, Option.getD_none, Option.isSome_none] at this
        exact this
      have HX : Hid (numB3 x = none) := hx
      clear hx htW
      gi_wp2_with (refine ⟨trivial, ?_⟩; gi_at_call 114; refine (CallsIn.inRound l (callsIn_wide.2 hnum)).mono ?_; rintro e W2 ⟨rfl, b2⟩; have e2 := (b2.block _ q2.lt).trans q2; have e3 := (b2.block _ q3.lt).trans q3; have e4 := (b2.block _ q4.lt).trans q4; have c2 := Boxed.cell e2; have c3 := Boxed.cell e3; have c4 := Boxed.cell e4; have f2 := Boxed.frozen e2; have f3 := Boxed.frozen e3; have f4 := Boxed.frozen e4; clear hnum)
      refine ⟨(keepsFrom_below b2).trans (((KeepsOthers.setCell _ _ _).trans ((KeepsOthers.setCell _ _ _).trans (KeepsOthers.setCell _ _ _))).from _), ⟨pre, x, rfl, HX.out⟩, ⟨?_, ?_, ?_⟩, ?_, ?_⟩
      · exact ((Boxed.set _ e2).other (by omega) _).other (by omega) _
      · exact ((Boxed.other e3 (by omega) _).set _).other (by omega) _
      · exact ((Boxed.other e4 (by omega) _).other (by omega) _).set _
      · exact (((hb.trans (b2.mono hb')).setCell (p := ⟨w.heap.size + 1, 0, none⟩) (by simp) _).setCell (p := ⟨w.heap.size + 1 + 1, 0, none⟩) (by simp; omega) _).setCell (p := ⟨w.heap.size + 1 + 1 + 1, 0, none⟩) (by simp; omega) _
      · simp only [World.setCell, Array.size_modify]; exact Nat.le_trans hb' b2.size
    | some k =>
      have hnum : Calls Tryz.prog 114 #[encS x, .int .i64 3] W fun e w' => e = .returned (.tuple #[.int .i64 k, .bool true]) ∧ Below W.heap.size W w' := by
        have := number3_any ⟨x.toArray⟩ W htW
        simp only [hx, Option.getD_some, Option.isSome_some] at this
        exact this
      have HX : Hid (nums3 (pre ++ [x]) = some (ns ++ [k])) := n3_snoc pre ns x k hns hx
      clear hx htW hns
      gi_wp2_with (first | (refine ⟨trivial, ?_⟩; gi_at_call 114; refine (CallsIn.inRound l (callsIn_wide.2 hnum)).mono ?_; rintro e W2 ⟨rfl, b2⟩; have g1 := (b2.block _ q1.lt).trans q1; have g2 := (b2.block _ q2.lt).trans q2; have g3 := (b2.block _ q3.lt).trans q3; have g4 := (b2.block _ q4.lt).trans q4; have gv := (b2.block _ hbv.lt).trans hbv; have hown2 := own_all hown b2; have cv := Boxed.cell gv; have fv := Boxed.frozen gv; have hs2 := b2.size; clear hnum hown) | (gi_at_builtin; refine wpListIn_append_own _ rfl _ _ 58 rfl (w2.heap.size + 4) 3 ii (.int .i64 0) 1 8 Tryz.underlying58 hi hz0 hz1 hz2 rfl (by decide) _ _ _ rfl (hown2.alloc _) ⟨W2.heap.size, 0, none⟩ 1 1 [.int .i64 k] rfl rfl (cell_one_new _ _ _) (by simp [Value.oneCell']) (by unfold maxLen; omega) (by omega) (by simp; omega) ?_; intro v' w1 hown' hgrow _; obtain ⟨g', cap', rfl⟩ := ownsRow_succ hown'; have hv1 := Boxed.kept (Boxed.alloc gv _) hgrow (Boxed.not_row gv (by decide) hown2); have cv1 := hv1.cell; have fv1 := hv1.frozen))
      obtain ⟨r1, r2, r3, r4, r5, r6⟩ := app_step b2 (show w2.heap.size < w2.heap.size + 4 by omega) hsz3 gv (by decide) hown2 hown' hgrow
      refine ⟨r1.from _, fun j hj0 hj1 => r2 j (by omega) (by omega), ⟨ns ++ [k], _, HX.out, r3, by simpa using r4⟩, ⟨⟨(r2 _ (by omega) (by omega)).trans q1, (r2 _ (by omega) (by omega)).trans q2⟩, (r2 _ (by omega) (by omega)).trans q3, (r2 _ (by omega) (by omega)).trans q4⟩, ⟨hb.trans (r5.mono (by omega)), by omega⟩, by omega⟩
  case done =>
    rintro D xs W hD rfl ⟨⟨ns, vv, hns, hbv, hown⟩, ⟨⟨q1, q2⟩, q3, q4⟩, ⟨hb, hb'⟩, hsz3⟩ hK
    obtain ⟨ao, nn, cap, rfl⟩ : ∃ ao nn cap, vv = .slice ao nn cap := by
      rcases hown.2 with ⟨h, _⟩ | ⟨g, cap, cur, h, _⟩
      · exact ⟨_, _, _, h⟩
      · exact ⟨_, _, _, h⟩
    have cv := hbv.cell
    have c2 := q2.cell
    have c3 := q3.cell
    have c4 := q4.cell
    have f2 := q2.frozen
    have f3 := q3.frozen
    have f4 := q4.frozen
    have HN : Hid (nums3 (cutB 32 v) = some ns) := hns
    clear hns
    gi_wp2
    gi_region
    gi_wp2
    obtain ⟨W4, hW4⟩ : ∃ W4, (((W.setCell ⟨w.heap.size + 1, 0, none⟩ (.string ⟨a.toArray⟩)).setCell ⟨w.heap.size + 1 + 1, 0, none⟩ (.slice ao nn cap)).setCell ⟨w.heap.size + 1 + 1 + 1, 0, none⟩ (.bool true)).drew = W4 := ⟨_, rfl⟩
    rw [hW4]
    have p2 : Boxed W4 (w.heap.size + 1) 9 (.string ⟨a.toArray⟩) := by rw [← hW4]; exact ((Boxed.set _ q2).other (by omega) _).other (by omega) _
    have p3 : Boxed W4 (w.heap.size + 1 + 1) 58 (.slice ao nn cap) := by rw [← hW4]; exact ((Boxed.other q3 (by omega) _).set _).other (by omega) _
    have p4 : Boxed W4 (w.heap.size + 1 + 1 + 1) 4 (.bool true) := by rw [← hW4]; exact ((Boxed.other q4 (by omega) _).other (by omega) _).set _
    have pK : W4.heap[D]? = some (.deferred (some [])) := by rw [← hW4]; exact ((KeepsOthers.setCell _ _ _).trans ((KeepsOthers.setCell _ _ _).trans (KeepsOthers.setCell _ _ _))).same D _ hK rfl
    have pb : Below w.heap.size w W4 := by rw [← hW4]; exact (((hb.setCell (p := ⟨w.heap.size + 1, 0, none⟩) (by simp) _).setCell (p := ⟨w.heap.size + 1 + 1, 0, none⟩) (by simp; omega) _).setCell (p := ⟨w.heap.size + 1 + 1 + 1, 0, none⟩) (by simp; omega) _).drew
    have po : W4.ownsRow (w2.heap.size + 4) 3 1 (.slice ao nn cap) ns.length (ns.map (Value.int .i64)) := by
      rw [← hW4]
      exact ((ownsRow_setCell_below hown (by simp; omega) _ |> fun h => ownsRow_setCell_below h (by simp; omega) _) |> fun h => ownsRow_setCell_below h (by simp; omega) _)
    clear hW4 hown hK q1 q2 q3 q4 hb c2 c3 c4 f2 f3 f4 cv hbv
    have u2 := Boxed.kept p2 (grownBy_putObj' W4 D (.deferred none)) (fun e => by cases e; omega)
    have u3 := Boxed.kept p3 (grownBy_putObj' W4 D (.deferred none)) (fun e => by cases e; omega)
    have u4 := Boxed.kept p4 (grownBy_putObj' W4 D (.deferred none)) (fun e => by cases e; omega)
    have d2 := u2.cell
    have d3 := u3.cell
    have d4 := u4.cell
    refine ⟨by simp, .inl ⟨_, _, rfl, run_takeDeferred pK, ?_⟩⟩
    refine ⟨.tuple #[.string ⟨a.toArray⟩, .slice ao nn cap, .bool true], ?_, Or.inl ⟨ns, _, HN.out, rfl, Joins.ownsRow_le (ownsRow_putObj po _ pK rfl) (by omega)⟩, ?_⟩
    · simp [results, Tryz.results75, go_sem, d2, d3, d4]
    · exact pb.trans (belowK_b (w := w) (Nat.le_refl _) W4 D _ _ (by omega) pK rfl rfl)
  case stop =>
    rintro D pre W hD hpre ⟨⟨q, p, rfl, hp⟩, ⟨q2, q3, q4⟩, hb, hb'⟩ hK
    have c2 := q2.cell
    have c3 := q3.cell
    have c4 := q4.cell
    have HN : Hid (nums3 (cutB 32 v) = none) := by
      obtain ⟨r, hr⟩ := hpre
      show _ = _
      rw [← hr, List.append_assoc]
      exact n3_bad hp
    clear hp hpre
    gi_wp2
    have u2 := Boxed.kept q2 (grownBy_putObj' W D (.deferred none)) (fun e => by cases e; omega)
    have u3 := Boxed.kept q3 (grownBy_putObj' W D (.deferred none)) (fun e => by cases e; omega)
    have u4 := Boxed.kept q4 (grownBy_putObj' W D (.deferred none)) (fun e => by cases e; omega)
    have d2 := u2.cell
    have d3 := u3.cell
    have d4 := u4.cell
    refine ⟨by simp, .inl ⟨_, _, rfl, run_takeDeferred hK, ?_⟩⟩
    refine ⟨.tuple #[.string ⟨#[]⟩, .slice none 0 0, .bool false], ?_, Or.inr ⟨HN.out, rfl⟩, ?_⟩
    · simp [results, Tryz.results75, go_sem, d2, d3, d4]
    · exact hb.trans (belowK_b (w := w) (Nat.le_refl _) W D _ _ (by omega) hK rfl rfl)

theorem read3_any (s : ByteArray) (w : World) (ht : Tabs2 w) (hl : s.size ≤ 1099511627776) :
    Calls Tryz.prog 75 #[.string s, .int .i64 3] w fun e w' =>
      ((∃ p ns vv, read3B s.data.toList = some (p, ns) ∧ e = .returned (.tuple #[.string ⟨p.toArray⟩, vv, .bool true]) ∧ w'.ownsRow w.heap.size 3 1 vv ns.length (ns.map (Value.int .i64))) ∨
       (read3B s.data.toList = none ∧ e = .returned (.tuple #[.string ⟨#[]⟩, .slice none 0 0, .bool false]))) ∧ Below w.heap.size w w' := by
  by_cases h : ∃ u, s.data.toList = u ++ [10]
  · obtain ⟨u, hu⟩ := h
    rcases idx_cases 32 u with ⟨hno, _⟩ | ⟨a, v, hav, hna, _⟩
    · refine (read3_word s u w hu hno hl).mono ?_
      rintro e w' ⟨rfl, hb⟩
      exact ⟨Or.inl ⟨u, [], _, by rw [hu, read3B_snoc, wnT_no hno], rfl, World.ownsRow_nil _ _ _ _⟩, hb⟩
    · subst hav
      refine (read3_nums s a v w ht hu hna hl).mono ?_
      rintro e w' ⟨⟨ns, vv, h1, rfl, h3⟩ | ⟨h1, rfl⟩, hb⟩
      · exact ⟨Or.inl ⟨a, ns, vv, by rw [hu, read3B_snoc, wnT_at hna, h1]; rfl, rfl, h3⟩, hb⟩
      · exact ⟨Or.inr ⟨by rw [hu, read3B_snoc, wnT_at hna, h1]; rfl, rfl⟩, hb⟩
  · have h' : ∀ u, s.data.toList ≠ u ++ [10] := fun u e => h ⟨u, e⟩
    refine (read3_open s w h' hl).mono ?_
    rintro e w' ⟨rfl, hb⟩
    exact ⟨Or.inr ⟨read3B_none h', rfl⟩, hb⟩
end Go.Proofs.YtajfgmlockjmhaiGreatDoor
