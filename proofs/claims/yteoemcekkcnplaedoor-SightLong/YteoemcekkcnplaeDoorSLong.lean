/-
  The law SightLong: the walk, under what package sight does.
-/
import Derived.Test.YteoemcekkcnplaeDoorSgtCR
import Derived.Test.YteoemcekkcnplaeDoorCountPlan2
import Derived.Test.YteoemcekkcnplaeDoorJd8
import Derived.Deep.CutRange
import Derived.Deep.RegionWith
import Derived.BigQuiet
import Derived.RangeFuncNested
namespace Go.Proofs.YteoemcekkcnplaeDoor
open Go.RowKit

theorem cnt_three : ((statesK (cntP 1) 2 0)[2]?.map fun s => s.c 0) = some 1 := by decide +kernel
theorem cnt_run : runE (cntP 1) 2 0 = 0 := by decide +kernel
theorem runE_zero {p : PD} {n r : Int} (h : runE p n r = 0) : plchk p = 0 ∧ 0 ≤ r ∧ r < (p.code.length : Int) ∧ 0 ≤ n ∧ n ≤ 2000 := by
  unfold runE at h
  split at h
  · rename_i hp
    split at h
    · omega
    · exact ⟨hp, by omega, by omega, by omega, by omega⟩
  · omega
set_option maxRecDepth 100000 in
set_option maxHeartbeats 8000000 in
theorem slong_of {G : World → Prop} (hall : ∀ w w', G w → Below w.heap.size w w' → G w') (R : SgtRun G) (p : PD) (vc vs vw : Value) (n r : Int) (w : World) (hG : G w) (hP : Pln w vc vs vw p) :
    Calls Tryd.prog 3 #[plV vc p.ticks vs vw, .int .i64 n, .int .i64 r] w fun e w' => e = .returned (.bool true) ∧ Below w.heap.size w w' := by
  obtain ⟨ca, cc, rfl⟩ := hP.code.form
  obtain ⟨sa, sc, rfl⟩ := hP.spans.form
  obtain ⟨wa, wc', rfl⟩ := hP.wires.form
  have hA : Below w.heap.size w (w.alloc (.cells #[.slice ca p.code.length cc, .int .i64 p.ticks, .slice sa p.spans.length sc, .slice wa p.wires.length wc'] 26)) := (Below.refl _ _).alloc (Nat.le_refl _) _
  have h1 := R p _ _ _ n r _ (hall _ _ hG hA) (hP.all hA)
  have HC : Hid (∀ W, Below w.heap.size w W → Calls Tryd.prog 9 #[.int .i64 1] W fun e w' => ∃ vc vs, e = .returned (plV vc 1 vs (.slice none 0 0)) ∧ Pln w' vc vs (.slice none 0 0) (cntP 1) ∧ Below W.heap.size W w') := fun W _ => counting_plan 1 W (by omega)
  have HR : Hid (∀ vc vs W, Below w.heap.size w W → Pln W vc vs (.slice none 0 0) (cntP 1) → Calls Tryd.prog 8 #[plV vc 1 vs (.slice none 0 0), .int .i64 2, .int .i64 0] W fun e w' => ∃ b off cap, e = .returned (.tuple #[.slice (some ⟨b, off, none⟩) 3 cap, .nilIface]) ∧ w'.cell? ⟨b, off + 17, none⟩ = some (.int .i64 1) ∧ Below W.heap.size W w') := fun vc vs W hb hP => by
    have := R (cntP 1) vc vs (.slice none 0 0) 2 0 W (hall _ _ hG hb) hP
    rw [cnt_run, if_pos rfl] at this
    refine this.mono ?_
    rintro e w' ⟨v, rfl, hs, hb'⟩
    have hl : (statesK (cntP 1) (Int.toNat 2) (Int.toNat 0)).length = 3 := statesK_len _ _ _
    rcases hs with ⟨h0, _⟩ | ⟨b, off, cap, h2, _, _, h3⟩
    · rw [h0] at hl
      cases hl
    · obtain ⟨s, hs, hs1⟩ := Option.map_eq_some_iff.1 cnt_three
      have h4 := (h3 2 s hs).c0
      rw [hs1] at h4
      refine ⟨b, off, cap, by rw [h2, hl]; rfl, ?_, hb'⟩
      exact h4
  have HS := statesK_first p n.toNat r.toNat
  have HL := statesK_len p n.toNat r.toNat
  have hz := @runE_zero p n r
  clear hP
  unfold plV at h1 HC HR ⊢
  cases he : decide (runE p n r = 0) with
  | false =>
    have hne : runE p n r ≠ 0 := of_decide_eq_false he
    rw [if_neg hne, wErr_not hne] at h1
    generalize runE p n r = ec at h1 hne
    have H1 : Hid (Calls Tryd.prog 8 _ _ _) := h1
    clear h1 he hz HS HL
    go_enter Tryd.func3, Tryd.ntmps3
    go_wp2_with (first
      | (go_at_call 8; refine H1.out.mono ?_; rintro e w1 ⟨v, rfl, hv, b1⟩; clear H1; have B1 := hA.trans (b1.mono hA.size); have q2 := HC.out w1 B1; clear HC)
      | (go_at_call 9; refine q2.mono ?_; rintro e w2 ⟨vc, vs, rfl, hP2, b2⟩; clear q2; have B2 := B1.trans (b2.mono B1.size); have q3 := HR.out vc vs w2 B2 hP2; clear HR)
      | (go_at_call 8; refine q3.mono ?_; rintro e w3 ⟨b, off, cap, rfl, hc3, b3⟩; clear q3; have B3 := B2.trans (b3.mono B2.size)))
    go_ret
    exact ⟨rfl, B3⟩
  | true =>
    have hne : runE p n r = 0 := of_decide_eq_true he
    obtain ⟨_, _, _, hn0, hn1⟩ := hz hne
    rw [if_pos hne, hne] at h1
    obtain ⟨nn, rfl⟩ : ∃ k : Nat, n = k := ⟨n.toNat, by omega⟩
    rw [Int.toNat_natCast] at HS HL h1
    generalize statesK p nn r.toNat = l at h1 HS HL
    have H1 : Hid (Calls Tryd.prog 8 #[.agg #[.slice ca p.code.length cc, .int .i64 p.ticks, .slice sa p.spans.length sc, .slice wa p.wires.length wc'], .int .i64 nn, .int .i64 r] (w.alloc (.cells #[.slice ca p.code.length cc, .int .i64 p.ticks, .slice sa p.spans.length sc, .slice wa p.wires.length wc'] 26)) fun e w' => ∃ b off cap, e = .returned (.tuple #[.slice (some ⟨b, off, none⟩) (nn + 1) cap, .nilIface]) ∧ b < w'.heap.size ∧ StC w' b off stNew ∧ Below (w.alloc (.cells #[.slice ca p.code.length cc, .int .i64 p.ticks, .slice sa p.spans.length sc, .slice wa p.wires.length wc'] 26)).heap.size (w.alloc (.cells #[.slice ca p.code.length cc, .int .i64 p.ticks, .slice sa p.spans.length sc, .slice wa p.wires.length wc'] 26)) w') := by
      refine h1.mono ?_
      rintro e w' ⟨v, rfl, hs, hb'⟩
      rcases hs with ⟨h0, _⟩ | ⟨b, off, cap, h2, _, hlt, h3⟩
      · rw [h0] at HL
        cases HL
      · have := h3 0 stNew HS
        exact ⟨b, off, cap, by rw [h2, HL]; rfl, hlt, by simpa using this, hb'⟩
    have hgd := guardSt
    have hnq := eql_st 0 0 0 0 0 0 0 false
    clear h1 he hz HS HL hne
    go_enter Tryd.func3, Tryd.ntmps3
    go_wp2_with (first
      | (go_at_call 8; refine H1.out.mono ?_; rintro e w1 ⟨b0, off0, cap0, rfl, hlt0, hst, b1⟩; clear H1; have B1 := hA.trans (b1.mono hA.size); have q2 := HC.out w1 B1; clear HC)
      | (go_at_call 9; refine q2.mono ?_; rintro e w2 ⟨vc, vs, rfl, hP2, b2⟩; clear q2; have B2 := B1.trans (b2.mono B1.size); have q3 := HR.out vc vs w2 B2 hP2; clear HR)
      | (go_at_call 8; refine q3.mono ?_; rintro e w3 ⟨b, off, cap, rfl, hc3, b3⟩; clear q3; have B3 := B2.trans (b3.mono B2.size); have hlt2 : b0 < w2.heap.size := Nat.lt_of_lt_of_le hlt0 b2.size; obtain ⟨s0, s1, s2, s3, s4, s5, s6, s7⟩ := (hst.block (b2.block b0 hlt0)).block (b3.block b0 hlt2); simp only [stNew] at s0 s1 s2 s3 s4 s5 s6 s7))
    go_ret
    exact ⟨rfl, B3⟩
end Go.Proofs.YteoemcekkcnplaeDoor
