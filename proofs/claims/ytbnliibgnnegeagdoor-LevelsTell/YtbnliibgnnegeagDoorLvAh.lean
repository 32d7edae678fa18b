/-
  Package levels: allAhead.
-/
import Derived.Test.YtbnliibgnnegeagDoorLvAll
namespace Go.Proofs.YtbnliibgnnegeagDoor
open Go.RowKit

/-- Five cells, all written. -/
theorem Sl5.all5 {w : World} {b : Nat} {f : Nat → Value} (h : Sl5 w b f) (g0 g1 g2 g3 g4 : Value) : (((((w.setCell ⟨b, 0, none⟩ g0).setCell ⟨b, 1, none⟩ g1).setCell ⟨b, 2, none⟩ g2).setCell ⟨b, 3, none⟩ g3).setCell ⟨b, 4, none⟩ g4).rangeAt b 0 [g0, g1, g2, g3, g4] := fun j v hv => by
  have hj : j < 5 := by
    have := (List.getElem?_eq_some_iff.1 hv).1
    simpa using this
  have h5 := (((((h.set (k := 0) (by omega) g0).set (k := 1) (by omega) g1).set (k := 2) (by omega) g2).set (k := 3) (by omega) g3).set (k := 4) (by omega) g4) j hj
  rw [Nat.zero_add, h5.1]
  clear h5
  obtain rfl | rfl | rfl | rfl | rfl : j = 0 ∨ j = 1 ∨ j = 2 ∨ j = 3 ∨ j = 4 := by omega
  all_goals simpa using hv
theorem below_five {B : Nat} {w0 w : World} (h : Below B w0 w) {b : Nat} (hb : B ≤ b) (g0 g1 g2 g3 g4 : Value) : Below B w0 (((((w.setCell ⟨b, 0, none⟩ g0).setCell ⟨b, 1, none⟩ g1).setCell ⟨b, 2, none⟩ g2).setCell ⟨b, 3, none⟩ g3).setCell ⟨b, 4, none⟩ g4) :=
  ((((h.setCell (p := ⟨b, 0, none⟩) hb g0).setCell (p := ⟨b, 1, none⟩) hb g1).setCell (p := ⟨b, 2, none⟩) hb g2).setCell (p := ⟨b, 3, none⟩) hb g3).setCell (p := ⟨b, 4, none⟩) hb g4
/-- Two results, the first of which lies in memory. -/
theorem results_cell_tmp {P : Program} {fn : Func} {tmps : Array Value} {w : World} {s u : Nat} {t : TypeId} {ad : Addr} {v : Value} (hf : fn.results = #[.cell s t, .tmp u]) (ha : tmps.getD s undef = .pointer (some ad)) (hl : (loadVar t ad).run P w = .ok v w) : (results fn tmps).run P w = .ok (.tuple #[v, tmps.getD u undef]) w := by
  unfold results
  rw [hf]
  have e : ∀ f : ResultVar → Sem Value, Array.mapM f #[ResultVar.cell s t, ResultVar.tmp u] = (do let x ← f (.cell s t); let y ← f (.tmp u); pure #[x, y]) := fun f => by simp [Array.mapM_eq_mapM_toList]
  rw [e]
  simp only [ha, asAddr, Sem.run_bind, Sem.run_pure, Result.andThen_ok, hl]
  simp
set_option maxRecDepth 100000 in
set_option maxHeartbeats 4000000 in
theorem lvall_bad (l : List W4) (v : Value) (w : World) (hl : Wrs w v l) (h : (wschk l).2 ≠ 0) :
    Calls Tryd.prog 16 #[v] w fun e w' => e = .returned (.tuple #[.agg #[.slice none 0 0, .slice none 0 0, .slice none 0 0, .slice none 0 0, .slice none 0 0], .iface 53 (.int .i64 (wschk l).2)]) ∧ Below w.heap.size w w' := by
  have HA : Hid (∀ W, Below w.heap.size w W → Calls Tryd.prog 21 #[v, .int .i64 0] W fun e w' => e = .returned (.tuple #[.slice none 0 0, .iface 53 (.int .i64 (wschk l).2)]) ∧ Below W.heap.size W w') := fun W hb => ahead_bad l v 0 W (hl.all hb) h
  obtain ⟨q, hq⟩ : ∃ q, q = (wschk l).2 := ⟨_, rfl⟩
  rw [← hq] at HA ⊢
  clear hq h
  obtain ⟨ao, cap, rfl⟩ := hl.form
  clear hl
  go_enter Tryd.func16, Tryd.ntmps16
  go_wp2
  go_loopw [8] (fun i wr => i = .int .i64 0 ∧ wr = (w.alloc (.cells #[.slice none 0 0, .slice none 0 0, .slice none 0 0, .slice none 0 0, .slice none 0 0] 49)).alloc (.cells #[.slice none 0 0, .slice none 0 0, .slice none 0 0, .slice none 0 0, .slice none 0 0] 49)) (fun _ _ => 0)
  case atStart => exact ⟨rfl, rfl⟩
  case round =>
    obtain ⟨rfl, rfl⟩ := hrel
    have hB : Below w.heap.size w ((w.alloc (.cells #[.slice none 0 0, .slice none 0 0, .slice none 0 0, .slice none 0 0, .slice none 0 0] 49)).alloc (.cells #[.slice none 0 0, .slice none 0 0, .slice none 0 0, .slice none 0 0, .slice none 0 0] 49)) := ((Below.refl _ _).alloc (Nat.le_refl _) _).alloc (by simp) _
    have hS : Sl5 ((w.alloc (.cells #[.slice none 0 0, .slice none 0 0, .slice none 0 0, .slice none 0 0, .slice none 0 0] 49)).alloc (.cells #[.slice none 0 0, .slice none 0 0, .slice none 0 0, .slice none 0 0, .slice none 0 0] 49)) w.heap.size (fun _ => .slice none 0 0) := fun i hi => by
      revert i
      refine five ?_ ?_ ?_ ?_ ?_ <;> simp
    have hq := HA.out _ hB
    have hsz : w.heap.size < ((w.alloc (.cells #[.slice none 0 0, .slice none 0 0, .slice none 0 0, .slice none 0 0, .slice none 0 0] 49)).alloc (.cells #[.slice none 0 0, .slice none 0 0, .slice none 0 0, .slice none 0 0, .slice none 0 0] 49)).heap.size := by simp; omega
    generalize (w.alloc (.cells #[.slice none 0 0, .slice none 0 0, .slice none 0 0, .slice none 0 0, .slice none 0 0] 49)).alloc (.cells #[.slice none 0 0, .slice none 0 0, .slice none 0 0, .slice none 0 0, .slice none 0 0] 49) = w1 at hB hS hq hsz ⊢
    have HS : Hid (∀ W, Below w1.heap.size w1 W → Sl5 W w.heap.size (fun _ => .slice none 0 0)) := fun W hb => hS.below hb hsz
    clear HA hS
    go_upto_region 7 with (go_at_call 21; refine hq.mono ?_; rintro e w2 ⟨rfl, b2⟩; clear hq)
    have hS2 := HS.out _ b2
    have hr5 := hS2.all5 (.slice none 0 0) (.slice none 0 0) (.slice none 0 0) (.slice none 0 0) (.slice none 0 0)
    have hB5 := below_five (hB.trans (b2.mono hB.size)) (Nat.le_refl _) (.slice none 0 0) (.slice none 0 0) (.slice none 0 0) (.slice none 0 0) (.slice none 0 0)
    have hld := run_loadVar_mid (P := Tryd.prog) _ w.heap.size 0 49 _ _ hr5 Tryd.underlying49 rfl (by kernel_rfl)
    obtain ⟨z0, y0⟩ := hS2 0 (by omega)
    obtain ⟨z1, y1⟩ := hS2 1 (by omega)
    obtain ⟨z2, y2⟩ := hS2 2 (by omega)
    obtain ⟨z3, y3⟩ := hS2 3 (by omega)
    obtain ⟨z4, y4⟩ := hS2 4 (by omega)
    clear hS2 HS hr5
    go_wp2
    exact bodyPost_ret (v := _) (results_cell_tmp Tryd.results16 rfl hld) rfl ⟨rfl, hB5⟩
set_option maxRecDepth 100000 in
set_option maxHeartbeats 4000000 in
theorem lvall_ok (l : List W4) (v : Value) (w : World) (hl : Wrs w v l) (h : (wschk l).2 = 0) :
    Calls Tryd.prog 16 #[v] w fun e w' => ∃ u0 u1 u2 u3 u4 : Value, e = .returned (.tuple #[.agg #[u0, u1, u2, u3, u4], .nilIface]) ∧ AR w' l 0 0 u0 ∧ AR w' l 0 1 u1 ∧ AR w' l 0 2 u2 ∧ AR w' l 0 3 u3 ∧ AR w' l 0 4 u4 ∧ Below w.heap.size w w' := by
  have HA : Hid (∀ (b : Nat) W, b < 5 → Below w.heap.size w W → Calls Tryd.prog 21 #[v, .int .i64 b] W fun e w' => ∃ g cap, e = .returned (.tuple #[.slice (some ⟨g, 0, none⟩) (ahd l b 5).length cap, .nilIface]) ∧ AR w' l W.heap.size b (.slice (some ⟨g, 0, none⟩) (ahd l b 5).length cap) ∧ Below W.heap.size W w') := fun b W hb hB => by
    refine (ahead_ok l v b W (hl.all hB) h hb).mono ?_
    rintro e w' ⟨u, rfl, h1, h2⟩
    obtain ⟨g, cap, rfl⟩ : ∃ g cap, u = .slice (some ⟨g, 0, none⟩) (ahd l b 5).length cap := by
      rcases row_form h1 with ⟨_, h0⟩ | h3
      · have := ahd_pos l hb
        omega
      · exact h3
    obtain ⟨h4, h5, _, _, h6, _, _⟩ := own_cap h1
    exact ⟨g, cap, rfl, ⟨g, cap, rfl, h4, h5, fun j x hx => h6 j _ (ints_at hx)⟩, h2⟩
  clear h
  obtain ⟨ao, cap, rfl⟩ := hl.form
  clear hl
  go_enter Tryd.func16, Tryd.ntmps16
  go_wp2
  go_loopw [8] (fun i wr => ∃ (k : Nat) (f : Nat → Value), k ≤ 5 ∧ i = .int .i64 k ∧ Hid (Sl5 wr (w.heap.size + 1) f) ∧ Hid (∀ i, i < k → AR wr l (w.heap.size + 2) i (f i)) ∧ Hid (Sl5 wr w.heap.size (fun _ => .slice none 0 0)) ∧ Below w.heap.size w wr ∧ w.heap.size + 2 ≤ wr.heap.size) (fun i _ => 5 - (intOf i).toNat)
  case atStart =>
    refine ⟨0, fun _ => .slice none 0 0, Nat.zero_le _, rfl, ?_, fun i hi => by omega, ?_, ((Below.refl _ _).alloc (Nat.le_refl _) _).alloc (by simp) _, by simp⟩
    · intro i hi
      revert i
      refine five ?_ ?_ ?_ ?_ ?_ <;> simp
    · intro i hi
      revert i
      refine five ?_ ?_ ?_ ?_ ?_ <;> simp
  case round =>
    obtain ⟨k, f, hk, rfl, HS, HR, HZ, hB, hsz⟩ := hrel
    by_cases hk5 : k < 5
    · have hki : (k : Int) < 5 := by omega
      have hq := HA.out k wr hk5 hB
      go_upto_region 8 with (go_at_call 21; refine hq.mono ?_; rintro e w2 ⟨g, gc, rfl, har, b2⟩; clear hq)
      have HS2 := HS.out.below b2 (by omega)
      have HZ2 := HZ.out.below b2 (by omega)
      have hB2 := hB.trans (b2.mono hB.size)
      have hs2 := b2.size
      have HR2 : Hid (∀ i, i < k + 1 → AR (w2.setCell ⟨w.heap.size + 1, k, none⟩ (.slice (some ⟨g, 0, none⟩) (ahd l k 5).length gc)) l (w.heap.size + 2) i (if i = k then .slice (some ⟨g, 0, none⟩) (ahd l k 5).length gc else f i)) := fun i hi => by
        by_cases e : i = k
        · subst e
          rw [if_pos rfl]
          obtain ⟨g', c', h1, h2, h3, h4⟩ := har
          exact AR.apart ⟨g', c', h1, by omega, h3, h4⟩ (by omega) _ _
        · rw [if_neg e]
          exact ((HR.out i (by omega)).below b2).apart (by omega) _ _
      obtain ⟨c0, y0⟩ := HS2 k hk5
      have HS3 : Hid (Sl5 w2 (w.heap.size + 1) f) := HS2
      have HZ3 : Hid (Sl5 w2 w.heap.size (fun _ => .slice none 0 0)) := HZ2
      clear HS2 HZ2 har HR HS HZ
      go_wp2
      go_roundw
      case rel => exact ⟨k + 1, _, by omega, by go_num, HS3.out.set hk5 _, HR2, HZ3.out.apart (by omega) _ _, hB2.setCell (p := ⟨w.heap.size + 1, k, none⟩) (Nat.le_succ _) _, by simp; omega⟩
      case measure => simp [intOf]; omega
    · obtain rfl : k = 5 := by omega
      obtain ⟨a0, _⟩ := HS.out 0 (by omega)
      obtain ⟨a1, _⟩ := HS.out 1 (by omega)
      obtain ⟨a2, _⟩ := HS.out 2 (by omega)
      obtain ⟨a3, _⟩ := HS.out 3 (by omega)
      obtain ⟨a4, _⟩ := HS.out 4 (by omega)
      have r0 := HR.out 0 (by omega)
      have r1 := HR.out 1 (by omega)
      have r2 := HR.out 2 (by omega)
      have r3 := HR.out 3 (by omega)
      have r4 := HR.out 4 (by omega)
      have hS2 := HZ.out
      generalize f 0 = f0 at a0 r0
      generalize f 1 = f1 at a1 r1
      generalize f 2 = f2 at a2 r2
      generalize f 3 = f3 at a3 r3
      generalize f 4 = f4 at a4 r4
      have keep : ∀ {i : Nat} {u : Value}, AR wr l (w.heap.size + 2) i u → AR (((((wr.setCell ⟨w.heap.size, 0, none⟩ f0).setCell ⟨w.heap.size, 1, none⟩ f1).setCell ⟨w.heap.size, 2, none⟩ f2).setCell ⟨w.heap.size, 3, none⟩ f3).setCell ⟨w.heap.size, 4, none⟩ f4) l 0 i u := fun {i u} h => by
        obtain ⟨g', c', h1, h2, h3, h4⟩ := ((((h.apart (c := w.heap.size) (by omega) 0 f0).apart (c := w.heap.size) (by omega) 1 f1).apart (c := w.heap.size) (by omega) 2 f2).apart (c := w.heap.size) (by omega) 3 f3).apart (c := w.heap.size) (by omega) 4 f4
        exact ⟨g', c', h1, Nat.zero_le _, h3, h4⟩
      have HF : Hid (AR (((((wr.setCell ⟨w.heap.size, 0, none⟩ f0).setCell ⟨w.heap.size, 1, none⟩ f1).setCell ⟨w.heap.size, 2, none⟩ f2).setCell ⟨w.heap.size, 3, none⟩ f3).setCell ⟨w.heap.size, 4, none⟩ f4) l 0 0 f0 ∧ AR (((((wr.setCell ⟨w.heap.size, 0, none⟩ f0).setCell ⟨w.heap.size, 1, none⟩ f1).setCell ⟨w.heap.size, 2, none⟩ f2).setCell ⟨w.heap.size, 3, none⟩ f3).setCell ⟨w.heap.size, 4, none⟩ f4) l 0 1 f1 ∧ AR (((((wr.setCell ⟨w.heap.size, 0, none⟩ f0).setCell ⟨w.heap.size, 1, none⟩ f1).setCell ⟨w.heap.size, 2, none⟩ f2).setCell ⟨w.heap.size, 3, none⟩ f3).setCell ⟨w.heap.size, 4, none⟩ f4) l 0 2 f2 ∧ AR (((((wr.setCell ⟨w.heap.size, 0, none⟩ f0).setCell ⟨w.heap.size, 1, none⟩ f1).setCell ⟨w.heap.size, 2, none⟩ f2).setCell ⟨w.heap.size, 3, none⟩ f3).setCell ⟨w.heap.size, 4, none⟩ f4) l 0 3 f3 ∧ AR (((((wr.setCell ⟨w.heap.size, 0, none⟩ f0).setCell ⟨w.heap.size, 1, none⟩ f1).setCell ⟨w.heap.size, 2, none⟩ f2).setCell ⟨w.heap.size, 3, none⟩ f3).setCell ⟨w.heap.size, 4, none⟩ f4) l 0 4 f4) := ⟨keep r0, keep r1, keep r2, keep r3, keep r4⟩
      have hr5 := hS2.all5 f0 f1 f2 f3 f4
      have hB5 := below_five hB (Nat.le_refl _) f0 f1 f2 f3 f4
      have hld := run_loadVar_mid (P := Tryd.prog) _ w.heap.size 0 49 _ _ hr5 Tryd.underlying49 rfl (by kernel_rfl)
      have o0 : f0.oneCell' = true := by
        obtain ⟨g', c', h1, _⟩ := r0
        rw [h1]
        rfl
      have o1 : f1.oneCell' = true := by
        obtain ⟨g', c', h1, _⟩ := r1
        rw [h1]
        rfl
      have o2 : f2.oneCell' = true := by
        obtain ⟨g', c', h1, _⟩ := r2
        rw [h1]
        rfl
      have o3 : f3.oneCell' = true := by
        obtain ⟨g', c', h1, _⟩ := r3
        rw [h1]
        rfl
      have o4 : f4.oneCell' = true := by
        obtain ⟨g', c', h1, _⟩ := r4
        rw [h1]
        rfl
      obtain ⟨z0, y0⟩ := hS2 0 (by omega)
      obtain ⟨z1, y1⟩ := hS2 1 (by omega)
      obtain ⟨z2, y2⟩ := hS2 2 (by omega)
      obtain ⟨z3, y3⟩ := hS2 3 (by omega)
      obtain ⟨z4, y4⟩ := hS2 4 (by omega)
      obtain ⟨g0, e0, rfl, _⟩ := r0
      obtain ⟨g1, e1, rfl, _⟩ := r1
      obtain ⟨g2, e2, rfl, _⟩ := r2
      obtain ⟨g3, e3, rfl, _⟩ := r3
      obtain ⟨g4, e4, rfl, _⟩ := r4
      clear hS2 HS HR HZ hr5 keep
      go_wp2
      exact bodyPost_ret (v := _) (results_cell_tmp Tryd.results16 rfl hld) rfl ⟨_, _, _, _, _, rfl, HF.out.1, HF.out.2.1, HF.out.2.2.1, HF.out.2.2.2.1, HF.out.2.2.2.2, hB5⟩
/-- Five rows in a block of their own. -/
theorem ahs_new {w : World} {l : List W4} {u0 u1 u2 u3 u4 : Value} {t : TypeId} (r0 : AR w l 0 0 u0) (r1 : AR w l 0 1 u1) (r2 : AR w l 0 2 u2) (r3 : AR w l 0 3 u3) (r4 : AR w l 0 4 u4) : Ahs (w.alloc (.cells #[u0, u1, u2, u3, u4] t)) l w.heap.size := by
  have hB : Below w.heap.size w (w.alloc (.cells #[u0, u1, u2, u3, u4] t)) := (Below.refl _ _).alloc (Nat.le_refl _) _
  refine ⟨by simp, fun i hi => ?_⟩
  obtain rfl | rfl | rfl | rfl | rfl : i = 0 ∨ i = 1 ∨ i = 2 ∨ i = 3 ∨ i = 4 := by omega
  · exact ⟨u0, by simp, r0.below hB⟩
  · exact ⟨u1, by simp, r1.below hB⟩
  · exact ⟨u2, by simp, r2.below hB⟩
  · exact ⟨u3, by simp, r3.below hB⟩
  · exact ⟨u4, by simp, r4.below hB⟩
end Go.Proofs.YtbnliibgnnegeagDoor
