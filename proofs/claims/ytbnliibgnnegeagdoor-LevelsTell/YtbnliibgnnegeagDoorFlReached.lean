/-
  flow.reached: who reaches whom by wires that are right.
-/
import Derived.Test.YtbnliibgnnegeagDoorFlEither
import Derived.Deep.RegionHeld3
namespace Go.Proofs.YtbnliibgnnegeagDoor
open Go.RowKit

/-- A row of five put in. -/
def rset (M : Nat → Nat → Bool) (i : Nat) (A : Nat → Bool) : Nat → Nat → Bool := fun x y => if x = i then A y else M x y
theorem Mx.row {w : World} {b : Nat} {M : Nat → Nat → Bool} (h : Mx w b M) {i : Nat} (hi : i < 5) (A : Nat → Bool) :
    Mx (((((w.setCell ⟨b, i * 5, none⟩ (.bool (A 0))).setCell ⟨b, i * 5 + 1, none⟩ (.bool (A 1))).setCell ⟨b, i * 5 + 2, none⟩ (.bool (A 2))).setCell ⟨b, i * 5 + 3, none⟩ (.bool (A 3))).setCell ⟨b, i * 5 + 4, none⟩ (.bool (A 4))) b (rset M i A) := fun x y hx hy => by
  obtain ⟨h1, h2⟩ := h x y hx hy
  refine ⟨?_, by simpa using h2⟩
  by_cases he : x = i
  · subst he
    have e : rset M x A x y = A y := by simp [rset]
    rw [e]
    have g0 := (h x 0 hi (by omega)).1
    have g1 := (h x 1 hi (by omega)).1
    have g2 := (h x 2 hi (by omega)).1
    have g3 := (h x 3 hi (by omega)).1
    have g4 := (h x 4 hi (by omega)).1
    rw [Nat.add_zero] at g0
    obtain rfl | rfl | rfl | rfl | rfl : y = 0 ∨ y = 1 ∨ y = 2 ∨ y = 3 ∨ y = 4 := by omega
    all_goals simp [go_sem, g0, g1, g2, g3, g4]
  · have e : rset M i A x y = M x y := by simp [rset, he]
    rw [e]
    rw [World.cell?_setCell_other _ _ _ _ (by intro e; injection e with _ e2; omega), World.cell?_setCell_other _ _ _ _ (by intro e; injection e with _ e2; omega), World.cell?_setCell_other _ _ _ _ (by intro e; injection e with _ e2; omega), World.cell?_setCell_other _ _ _ _ (by intro e; injection e with _ e2; omega), World.cell?_setCell_other _ _ _ _ (by intro e; injection e with _ e2; omega)]
    exact h1
theorem Mx.apart5 {w : World} {b c : Nat} {M : Nat → Nat → Bool} (h : Mx w b M) (hne : b ≠ c) (i0 i1 i2 i3 i4 : Nat) (u0 u1 u2 u3 u4 : Value) :
    Mx (((((w.setCell ⟨c, i0, none⟩ u0).setCell ⟨c, i1, none⟩ u1).setCell ⟨c, i2, none⟩ u2).setCell ⟨c, i3, none⟩ u3).setCell ⟨c, i4, none⟩ u4) b M :=
  ((((h.apart hne _ _).apart hne _ _).apart hne _ _).apart hne _ _).apart hne _ _
theorem Mx.alloc {w : World} {b : Nat} {M : Nat → Nat → Bool} (h : Mx w b M) (hb : b < w.heap.size) (o : Obj) : Mx (w.alloc o) b M :=
  h.below (B := w.heap.size) ((Below.refl _ _).alloc (Nat.le_refl _) _) hb
/-- A row that takes over what another one reaches. -/
theorem Win.took {e : Nat → Nat → Bool} {m i : Nat} {M : Nat → Nat → Bool} (h : Win e m i 0 M) (hm : m < 5) (hi : i < 5) (h1 : M i m = true) : Win e m (i + 1) 0 (rset M i fun y => M i y || M m y) := by
  intro x y hx hy
  by_cases he : x = i
  · subst he
    have ev : rset M x (fun y => M x y || M m y) x y = (M x y || M m y) := by simp [rset]
    rw [ev]
    have hup : (M x y || M m y) = true → pm e (m + 1) x y = true := fun hh => by
      rw [Bool.or_eq_true] at hh
      rcases hh with a | a
      · exact (h x y hx hy).2.1 a
      · exact pm_via (pm_col ((h x m hx hm).2.1 h1)) (pm_row ((h m y hm hy).2.1 a))
    refine ⟨fun hp => by rw [(h x y hx hy).1 hp]; rfl, hup, fun _ => ?_⟩
    cases hq : (M x y || M m y) with
    | true => exact (hup hq).symm
    | false =>
      cases hp : pm e (m + 1) x y with
      | false => rfl
      | true =>
        rw [Bool.or_eq_false_iff] at hq
        rcases pm_cases hp with a | ⟨_, b⟩
        · rw [(h x y hx hy).1 a] at hq; cases hq.1
        · rw [(h m y hm hy).1 b] at hq; cases hq.2
  · have ev : rset M i (fun y => M i y || M m y) x y = M x y := by simp [rset, he]
    rw [ev]
    exact ⟨(h x y hx hy).1, (h x y hx hy).2.1, fun hh => (h x y hx hy).2.2 (by omega)⟩
theorem Win.left {e : Nat → Nat → Bool} {m i : Nat} {M : Nat → Nat → Bool} (h : Win e m i 0 M) (hm : m < 5) (hi : i < 5) (h1 : M i m = false) : Win e m (i + 1) 0 M := by
  intro x y hx hy
  refine ⟨(h x y hx hy).1, (h x y hx hy).2.1, fun hh => ?_⟩
  by_cases he : x = i
  · subst he
    cases hM : M x y with
    | true => exact ((h x y hx hy).2.1 hM).symm
    | false =>
      cases hp : pm e (m + 1) x y with
      | false => rfl
      | true =>
        rcases pm_cases hp with a | ⟨a, _⟩
        · rw [(h x y hx hy).1 a] at hM; cases hM
        · rw [(h x m hx hm).1 a] at h1; cases h1
  · exact (h x y hx hy).2.2 (by omega)

set_option maxRecDepth 100000 in
set_option maxHeartbeats 8000000 in
theorem reached_any (l : List W4) (v : Value) (w : World) (hl : Wrs w v l) (hlen : l.length ≤ 12) (hok : ∀ x ∈ l, w4chk x = 0) :
    Calls Tryd.prog 26 #[v] w fun e w' => e = .returned (.agg (wayCells l).toArray) ∧ Below w.heap.size w w' := by
  obtain ⟨ao, cap, rfl⟩ := hl.form
  have HL : Hid (Wrs w (.slice ao l.length cap) l) := hl
  have HK : Hid (∀ x ∈ l, w4chk x = 0) := hok
  clear hl hok
  go_enter Tryd.func26, Tryd.ntmps26
  go_wp2
  go_loopw [9] (fun i wr => ∃ k : Nat, k ≤ 5 ∧ i = .int .i64 k ∧ Mx wr (w.heap.size + 1) (dg k) ∧ Mx wr w.heap.size (dg 0) ∧ Below w.heap.size w wr ∧ w.heap.size + 2 ≤ wr.heap.size) (fun i _ => 5 - (intOf i).toNat)
  case atStart =>
    refine ⟨0, Nat.zero_le _, rfl, ?_, ?_, ((Below.refl _ _).alloc (Nat.le_refl _) _).alloc (by simp) _, by simp⟩
    · intro x y hx hy
      revert y
      revert x
      refine five ?_ ?_ ?_ ?_ ?_ <;> refine five ?_ ?_ ?_ ?_ ?_ <;> simp [dg]
    · intro x y hx hy
      revert y
      revert x
      refine five ?_ ?_ ?_ ?_ ?_ <;> refine five ?_ ?_ ?_ ?_ ?_ <;> simp [dg]
  case round =>
    obtain ⟨k, hk, rfl, hM, hZ, hB, hsz⟩ := hrel
    have HM : Hid (Mx wr (w.heap.size + 1) (dg k)) := hM
    have HZ : Hid (Mx wr w.heap.size (dg 0)) := hZ
    clear hM hZ
    by_cases hk5 : k < 5
    · have hki : (k : Int) < 5 := by omega
      obtain ⟨c, f⟩ := HM.out k k hk5 hk5
      go_wp2
      go_roundw
      case rel => exact ⟨k + 1, by omega, by go_num, (HM.out.set hk5 hk5).congr (fun x y _ _ => dg_succ k x y), HZ.out.apart (by omega) _ _, hB.setCell (p := ⟨w.heap.size + 1, _, none⟩) (Nat.le_succ _) _, by simpa using hsz⟩
      case measure => simp [intOf]; omega
    · obtain rfl : k = 5 := by omega
      rw [show ((5 : Nat) : Int) = 5 from rfl]
      have HE : Hid (Mx wr (w.heap.size + 1) (edge (l.take 0))) := HM.out.congr (fun x y hx hy => by rw [List.take_zero]; exact dg_five x y hx hy)
      clear HM
      go_wp2
      rename World => wo
      go_loopw [19] (fun i wr => ∃ k : Nat, k ≤ l.length ∧ i = .int .i64 k ∧ Mx wr (w.heap.size + 1) (edge (l.take k)) ∧ Mx wr w.heap.size (dg 0) ∧ Below w.heap.size w wr ∧ w.heap.size + 2 ≤ wr.heap.size) (fun i _ => l.length - (intOf i).toNat)
      case atStart => exact ⟨0, Nat.zero_le _, rfl, HE.out, HZ.out, hB, hsz⟩
      case round =>
        clear HE HZ hB hsz
        obtain ⟨k, hk, rfl, hM, hZ, hB, hsz⟩ := hrel
        have HM : Hid (Mx wr (w.heap.size + 1) (edge (l.take k))) := hM
        have HZ : Hid (Mx wr w.heap.size (dg 0)) := hZ
        clear hM hZ
        by_cases hkl : k < l.length
        · have hki : (k : Int) < (l.length : Int) := by omega
          obtain ⟨b, off, f, t, kd, d, rfl, hlt, hx, c0, c1, c2, c3⟩ := HL.out.at hkl
          have hr := w4_rooms (HK.out _ (List.mem_of_getElem? hx))
          simp only at hr
          obtain ⟨fi, rfl⟩ : ∃ n : Nat, f = n := ⟨f.toNat, by omega⟩
          obtain ⟨ti, rfl⟩ : ∃ n : Nat, t = n := ⟨t.toNat, by omega⟩
          obtain ⟨_, hf5, _, ht5, _⟩ := hr
          have HX : Hid (l[k]? = some ((fi : Int), (ti : Int), kd, d)) := hx
          have hf5' : (fi : Int) < 5 := hf5
          have ht5' : (ti : Int) < 5 := ht5
          have hfn : fi < 5 := by omega
          have htn : ti < 5 := by omega
          replace c0 := (hB.cell (p := ⟨b, _, none⟩) hlt).trans c0
          replace c1 := (hB.cell (p := ⟨b, _, none⟩) hlt).trans c1
          replace c2 := (hB.cell (p := ⟨b, _, none⟩) hlt).trans c2
          replace c3 := (hB.cell (p := ⟨b, _, none⟩) hlt).trans c3
          obtain ⟨c, fz⟩ := HM.out fi ti hfn htn
          have hne1 : w.heap.size + 1 < wr.heap.size := by omega
          clear hx
          go_wp2
          go_region
          all_goals go_wp2
          all_goals go_roundw
          case rel =>
            refine ⟨k + 1, by omega, by go_num, ?_, ((HZ.out.apart (by omega) _ _).alloc (by simp; omega) _).drew, ((hB.setCell (p := ⟨w.heap.size + 1, _, none⟩) (Nat.le_succ _) _).alloc (by simp; omega) _).drew, by simp; omega⟩
            refine (((HM.out.set hfn htn).congr (fun x y _ _ => ?_)).alloc (by simp; omega) _).drew
            rw [edge_snoc (l.take k) fi ti kd d fi ti rfl rfl, ← take_snoc4 HX.out]
          case measure => simp [intOf]; omega
        · obtain rfl : k = l.length := by omega
          have hki : decide ((l.length : Int) < (l.length : Int)) = false := by simp
          have HE : Hid (Mx wr (w.heap.size + 1) (pm (edge l) 0)) := HM.out.congr (fun x y _ _ => by rw [List.take_length]; rfl)
          clear HM
          go_wp2
          rename World => wp
          go_loopw [30] (fun i wr => ∃ m : Nat, m ≤ 5 ∧ i = .int .i64 m ∧ Mx wr (w.heap.size + 1) (pm (edge l) m) ∧ Mx wr w.heap.size (dg 0) ∧ Below w.heap.size w wr ∧ w.heap.size + 2 ≤ wr.heap.size) (fun i _ => 5 - (intOf i).toNat)
          case atStart => exact ⟨0, Nat.zero_le _, rfl, HE.out, HZ.out, hB, hsz⟩
          case round =>
            clear HE HZ hB hsz
            obtain ⟨m, hm, rfl, hM, hZ, hB, hsz⟩ := hrel
            have HM : Hid (Mx wr (w.heap.size + 1) (pm (edge l) m)) := hM
            have HZ : Hid (Mx wr w.heap.size (dg 0)) := hZ
            clear hM hZ
            by_cases hm5 : m < 5
            · have hmi : (m : Int) < 5 := by omega
              go_wp2
              rename World => wq
              go_loopw [33] (fun i wr => ∃ (i' : Nat) (M : Nat → Nat → Bool), i' ≤ 5 ∧ i = .int .i64 i' ∧ Win (edge l) m i' 0 M ∧ Mx wr (w.heap.size + 1) M ∧ Mx wr w.heap.size (dg 0) ∧ Below w.heap.size w wr ∧ w.heap.size + 2 ≤ wr.heap.size) (fun i _ => 5 - (intOf i).toNat)
              case atStart => exact ⟨0, _, Nat.zero_le _, rfl, Win.start _ m, HM.out, HZ.out, hB, hsz⟩
              case round =>
                clear HM HZ hB hsz
                obtain ⟨i, M, hi, rfl, hW, hM, hZ, hB, hsz⟩ := hrel
                have HW : Hid (Win (edge l) m i 0 M) := hW
                have HM : Hid (Mx wr (w.heap.size + 1) M) := hM
                have HZ : Hid (Mx wr w.heap.size (dg 0)) := hZ
                clear hM hZ hW
                by_cases hi5 : i < 5
                · have hii : (i : Int) < 5 := by omega
                  obtain ⟨c1, _⟩ := HM.out i m hi5 hm5
                  cases h1 : M i m with
                  | false =>
                    have H1 : Hid (M i m = false) := h1
                    rw [h1] at c1
                    clear h1
                    go_wp2
                    go_roundw
                    case rel => exact ⟨i + 1, M, by omega, by go_num, HW.out.left hm5 hi5 H1.out, HM.out, HZ.out, hB, hsz⟩
                    case measure => simp [intOf]; omega
                  | true =>
                    have H1 : Hid (M i m = true) := h1
                    have c1' := c1
                    rw [h1] at c1'
                    clear h1 c1
                    go_upto_region 19 with fail
                    obtain ⟨a0, f0⟩ := HM.out i 0 hi5 (by omega)
                    obtain ⟨a1, f1⟩ := HM.out i 1 hi5 (by omega)
                    obtain ⟨a2, f2⟩ := HM.out i 2 hi5 (by omega)
                    obtain ⟨a3, f3⟩ := HM.out i 3 hi5 (by omega)
                    obtain ⟨a4, f4⟩ := HM.out i 4 hi5 (by omega)
                    obtain ⟨b0, _⟩ := HM.out m 0 hm5 (by omega)
                    obtain ⟨b1, _⟩ := HM.out m 1 hm5 (by omega)
                    obtain ⟨b2, _⟩ := HM.out m 2 hm5 (by omega)
                    obtain ⟨b3, _⟩ := HM.out m 3 hm5 (by omega)
                    obtain ⟨b4, _⟩ := HM.out m 4 hm5 (by omega)
                    replace a0 : wr.cell? ⟨w.heap.size + 1, i * 5, none⟩ = some (.bool (M i 0)) := a0
                    replace f0 : wr.frozen? ⟨w.heap.size + 1, i * 5, none⟩ = false := f0
                    replace b0 : wr.cell? ⟨w.heap.size + 1, m * 5, none⟩ = some (.bool (M m 0)) := b0
                    have hei := either_any (M i) (M m) wr.drew
                    unfold rwV at hei
                    clear c1'
                    have hlt1 : w.heap.size + 1 < wr.heap.size := by omega
                    go_region_with (go_at_call 33; refine hei.mono ?_; rintro e w1 ⟨rfl, be⟩; have k0 := (be.cell (p := ⟨w.heap.size + 1, i * 5, none⟩) hlt1).trans a0; have k1 := (be.cell (p := ⟨w.heap.size + 1, i * 5 + 1, none⟩) hlt1).trans a1; have k2 := (be.cell (p := ⟨w.heap.size + 1, i * 5 + 2, none⟩) hlt1).trans a2; have k3 := (be.cell (p := ⟨w.heap.size + 1, i * 5 + 3, none⟩) hlt1).trans a3; have k4 := (be.cell (p := ⟨w.heap.size + 1, i * 5 + 4, none⟩) hlt1).trans a4; have g0 := (be.frozen (p := ⟨w.heap.size + 1, i * 5, none⟩) hlt1).trans f0; have g1 := (be.frozen (p := ⟨w.heap.size + 1, i * 5 + 1, none⟩) hlt1).trans f1; have g2 := (be.frozen (p := ⟨w.heap.size + 1, i * 5 + 2, none⟩) hlt1).trans f2; have g3 := (be.frozen (p := ⟨w.heap.size + 1, i * 5 + 3, none⟩) hlt1).trans f3; have g4 := (be.frozen (p := ⟨w.heap.size + 1, i * 5 + 4, none⟩) hlt1).trans f4)
                    all_goals (
                      go_wp2
                      go_roundw
                      case rel =>
                        have be' : Below wr.heap.size wr w1 := ((Below.refl _ wr).drew).trans be
                        have hB1 : Below w.heap.size w w1 := hB.trans (be'.mono hB.size)
                        have hs1 := be'.size
                        refine ⟨i + 1, _, by omega, by go_num, HW.out.took hm5 hi5 H1.out, (HM.out.below be' (by omega)).row hi5 (fun y => M i y || M m y), (HZ.out.below be' (by omega)).apart5 (by omega) _ _ _ _ _ _ _ _ _ _, ?_, by simp; omega⟩
                        exact ((((hB1.setCell (p := ⟨w.heap.size + 1, _, none⟩) (Nat.le_succ _) _).setCell (p := ⟨w.heap.size + 1, _, none⟩) (Nat.le_succ _) _).setCell (p := ⟨w.heap.size + 1, _, none⟩) (Nat.le_succ _) _).setCell (p := ⟨w.heap.size + 1, _, none⟩) (Nat.le_succ _) _).setCell (p := ⟨w.heap.size + 1, _, none⟩) (Nat.le_succ _) _
                      case measure => simp [intOf]; omega)
                · obtain rfl : i = 5 := by omega
                  go_wp2
                  go_roundw
                  case rel => exact ⟨m + 1, by omega, by go_num, HM.out.congr HW.out.last, HZ.out, hB, hsz⟩
                  case measure => simp [intOf]; omega
            · obtain rfl : m = 5 := by omega
              have hrg : wr.rangeAt (w.heap.size + 1) 0 (wayCells l) := HM.out.range
              have hth : wr.there w.heap.size 0 25 := HZ.out.there
              clear HM HZ
              go_upto_region 22 with fail
              refine wp_region_lit ?_
              refine wpList_load_mid rfl 62 _ rfl (w.heap.size + 1) 0 rfl (wayCells l) _ hrg Tryd.underlying62 rfl (by kernel_rfl) ?_
              refine wpList_store_mid rfl 62 _ _ rfl w.heap.size 0 (wayCells l).toArray rfl rfl hth (by kernel_rfl) (way_one l) ?_
              have hB2 : Below w.heap.size w (wr.setCells w.heap.size 0 (wayCells l)) := below_cells hB (Nat.le_refl _) _ _
              have hr2 : (wr.setCells w.heap.size 0 (wayCells l)).rangeAt w.heap.size 0 (wayCells l) := World.rangeAt_setCells_same _ _ _ _ hth
              have hld : (loadVar 62 ⟨w.heap.size, 0, none⟩).run Tryd.prog (wr.setCells w.heap.size 0 (wayCells l)) = .ok (.agg (wayCells l).toArray) (wr.setCells w.heap.size 0 (wayCells l)) := run_loadVar_mid _ _ _ _ _ _ hr2 Tryd.underlying62 rfl (by kernel_rfl)
              rw [show (wayCells l).toArray.toList = wayCells l from rfl]
              generalize wr.setCells w.heap.size 0 (wayCells l) = wz at hB2 hr2 hld ⊢
              clear hr2 hrg hth
              go_wp2
              refine bodyPost_ret (v := .agg (wayCells l).toArray) ?_ rfl ⟨rfl, hB2⟩
              exact results_cell Tryd.results26 rfl hld
end Go.Proofs.YtbnliibgnnegeagDoor
