/-
  frameref1.Ways: the document's word on who reaches whom.
-/
import Derived.Test.YtbnliibgnnegeagDoorWayL
namespace Go.Proofs.YtbnliibgnnegeagDoor
open Go.RowKit

set_option maxRecDepth 100000 in
set_option maxHeartbeats 8000000 in
theorem refways_any (l : List W4) (v : Value) (w : World) (hl : Wrs w v l) (hlen : l.length ≤ 12) (hok : ∀ x ∈ l, w4chk x = 0) :
    Calls Tryd.prog 13 #[v] w fun e w' => e = .returned (.agg #[.bool (way l 0 0), .bool (way l 0 1), .bool (way l 0 2), .bool (way l 0 3), .bool (way l 0 4), .bool (way l 1 0), .bool (way l 1 1), .bool (way l 1 2), .bool (way l 1 3), .bool (way l 1 4), .bool (way l 2 0), .bool (way l 2 1), .bool (way l 2 2), .bool (way l 2 3), .bool (way l 2 4), .bool (way l 3 0), .bool (way l 3 1), .bool (way l 3 2), .bool (way l 3 3), .bool (way l 3 4), .bool (way l 4 0), .bool (way l 4 1), .bool (way l 4 2), .bool (way l 4 3), .bool (way l 4 4)]) ∧ Below w.heap.size w w' := by
  obtain ⟨ao, cap, rfl⟩ := hl.form
  have HL : Hid (Wrs w (.slice ao l.length cap) l) := hl
  have HK : Hid (∀ x ∈ l, w4chk x = 0) := hok
  clear hl hok
  go_enter Tryd.func13, Tryd.ntmps13
  go_wp2
  go_loopw [4] (fun i wr => ∃ k : Nat, k ≤ 5 ∧ i = .int .i64 k ∧ Mx wr (w.heap.size + 1) (dg k) ∧ Mx wr w.heap.size (dg 0) ∧ Below w.heap.size w wr ∧ w.heap.size + 2 ≤ wr.heap.size) (fun i _ => 5 - (intOf i).toNat)
  case atStart =>
    refine ⟨0, Nat.zero_le _, rfl, ?_, ?_, ((Below.refl _ _).alloc (Nat.le_refl _) _).alloc (by simp) _, by simp⟩
    · intro x y hx hy
      revert y
      revert x
      refine five ?_ ?_ ?_ ?_ ?_ <;> refine five ?_ ?_ ?_ ?_ ?_ <;> simp [dg]
    · intro x y hx hy
      revert y
      revert x
      refine five ?_ ?_ ?_ ?_ ?_ <;> refine five ?_ ?_ ?_ ?_ ?_ <;> simp [dg]
  case round =>
    obtain ⟨k, hk, rfl, hM, hZ, hB, hsz⟩ := hrel
    have HM : Hid (Mx wr (w.heap.size + 1) (dg k)) := hM
    have HZ : Hid (Mx wr w.heap.size (dg 0)) := hZ
    clear hM hZ
    by_cases hk5 : k < 5
    · have hki : (k : Int) < 5 := by omega
      obtain ⟨c, f⟩ := HM.out k k hk5 hk5
      go_wp2
      go_roundw
      case rel => exact ⟨k + 1, by omega, by go_num, (HM.out.set hk5 hk5).congr (fun x y _ _ => dg_succ k x y), HZ.out.apart (by omega) _ _, hB.setCell (p := ⟨w.heap.size + 1, _, none⟩) (Nat.le_succ _) _, by simpa using hsz⟩
      case measure => simp [intOf]; omega
    · obtain rfl : k = 5 := by omega
      have HE : Hid (Mx wr (w.heap.size + 1) (edge (l.take 0))) := HM.out.congr (fun x y hx hy => by rw [List.take_zero]; exact dg_five x y hx hy)
      clear HM
      go_wp2
      rename World => wo
      go_loopw [5] (fun i wr => ∃ k : Nat, k ≤ l.length ∧ i = .int .i64 k ∧ Mx wr (w.heap.size + 1) (edge (l.take k)) ∧ Mx wr w.heap.size (dg 0) ∧ Below w.heap.size w wr ∧ w.heap.size + 2 ≤ wr.heap.size) (fun i _ => l.length - (intOf i).toNat)
      case atStart => exact ⟨0, Nat.zero_le _, rfl, HE.out, HZ.out, hB, hsz⟩
      case round =>
        clear HE HZ hB hsz
        obtain ⟨k, hk, rfl, hM, hZ, hB, hsz⟩ := hrel
        have HM : Hid (Mx wr (w.heap.size + 1) (edge (l.take k))) := hM
        have HZ : Hid (Mx wr w.heap.size (dg 0)) := hZ
        clear hM hZ
        by_cases hkl : k < l.length
        · have hki : (k : Int) < (l.length : Int) := by omega
          obtain ⟨b, off, f, t, kd, d, rfl, hlt, hx, c0, c1, _, _⟩ := HL.out.at hkl
          have hr := w4_rooms (HK.out _ (List.mem_of_getElem? hx))
          simp only at hr
          obtain ⟨fi, rfl⟩ : ∃ n : Nat, f = n := ⟨f.toNat, by omega⟩
          obtain ⟨ti, rfl⟩ : ∃ n : Nat, t = n := ⟨t.toNat, by omega⟩
          obtain ⟨_, hf5, _, ht5, _⟩ := hr
          have HX : Hid (l[k]? = some ((fi : Int), (ti : Int), kd, d)) := hx
          have hf5' : (fi : Int) < 5 := hf5
          have ht5' : (ti : Int) < 5 := ht5
          have hfn : fi < 5 := by omega
          have htn : ti < 5 := by omega
          replace c0 := (hB.cell (p := ⟨b, _, none⟩) hlt).trans c0
          replace c1 := (hB.cell (p := ⟨b, _, none⟩) hlt).trans c1
          obtain ⟨c, fz⟩ := HM.out fi ti hfn htn
          clear hx
          go_wp2
          go_region
          all_goals go_wp2
          all_goals go_roundw
          case rel =>
            refine ⟨k + 1, by omega, by go_num, ?_, (HZ.out.apart (by omega) _ _).drew, (hB.setCell (p := ⟨w.heap.size + 1, _, none⟩) (Nat.le_succ _) _).drew, by simpa using hsz⟩
            refine ((HM.out.set hfn htn).congr (fun x y _ _ => ?_)).drew
            rw [edge_snoc (l.take k) fi ti kd d fi ti rfl rfl, ← take_snoc4 HX.out]
          case measure => simp [intOf]; omega
        · obtain rfl : k = l.length := by omega
          have hki : decide ((l.length : Int) < (l.length : Int)) = false := by simp
          have HE : Hid (Mx wr (w.heap.size + 1) (pm (edge l) 0)) := HM.out.congr (fun x y _ _ => by rw [List.take_length]; rfl)
          clear HM
          go_wp2
          rename World => wp
          go_loopw [6] (fun i wr => ∃ m : Nat, m ≤ 5 ∧ i = .int .i64 m ∧ Mx wr (w.heap.size + 1) (pm (edge l) m) ∧ Mx wr w.heap.size (dg 0) ∧ Below w.heap.size w wr ∧ w.heap.size + 2 ≤ wr.heap.size) (fun i _ => 5 - (intOf i).toNat)
          case atStart => exact ⟨0, Nat.zero_le _, rfl, HE.out, HZ.out, hB, hsz⟩
          case round =>
            clear HE HZ hB hsz
            obtain ⟨m, hm, rfl, hM, hZ, hB, hsz⟩ := hrel
            have HM : Hid (Mx wr (w.heap.size + 1) (pm (edge l) m)) := hM
            have HZ : Hid (Mx wr w.heap.size (dg 0)) := hZ
            clear hM hZ
            by_cases hm5 : m < 5
            · have hmi : (m : Int) < 5 := by omega
              go_wp2
              rename World => wq
              go_loopw [7] (fun i wr => ∃ (i' : Nat) (M : Nat → Nat → Bool), i' ≤ 5 ∧ i = .int .i64 i' ∧ Win (edge l) m i' 0 M ∧ Mx wr (w.heap.size + 1) M ∧ Mx wr w.heap.size (dg 0) ∧ Below w.heap.size w wr ∧ w.heap.size + 2 ≤ wr.heap.size) (fun i _ => 5 - (intOf i).toNat)
              case atStart => exact ⟨0, _, Nat.zero_le _, rfl, Win.start _ m, HM.out, HZ.out, hB, hsz⟩
              case round =>
                clear HM HZ hB hsz
                obtain ⟨i, M, hi, rfl, hW, hM, hZ, hB, hsz⟩ := hrel
                have HW : Hid (Win (edge l) m i 0 M) := hW
                have HM : Hid (Mx wr (w.heap.size + 1) M) := hM
                have HZ : Hid (Mx wr w.heap.size (dg 0)) := hZ
                clear hM hZ hW
                by_cases hi5 : i < 5
                · have hii : (i : Int) < 5 := by omega
                  go_wp2
                  rename World => ws
                  go_loopw [8] (fun j wr => ∃ (k : Nat) (M : Nat → Nat → Bool), k ≤ 5 ∧ j = .int .i64 k ∧ Win (edge l) m i k M ∧ Mx wr (w.heap.size + 1) M ∧ Mx wr w.heap.size (dg 0) ∧ Below w.heap.size w wr ∧ w.heap.size + 2 ≤ wr.heap.size) (fun j _ => 5 - (intOf j).toNat)
                  case atStart => exact ⟨0, M, Nat.zero_le _, rfl, HW.out, HM.out, HZ.out, hB, hsz⟩
                  case round =>
                    clear HM HZ HW hB hsz
                    obtain ⟨k, N, hk, rfl, hW, hM, hZ, hB, hsz⟩ := hrel
                    have HW : Hid (Win (edge l) m i k N) := hW
                    have HM : Hid (Mx wr (w.heap.size + 1) N) := hM
                    have HZ : Hid (Mx wr w.heap.size (dg 0)) := hZ
                    clear hM hZ hW
                    by_cases hk5 : k < 5
                    · have hki : (k : Int) < 5 := by omega
                      obtain ⟨c1, _⟩ := HM.out i m hi5 hm5
                      obtain ⟨c2, _⟩ := HM.out m k hm5 hk5
                      obtain ⟨c3, f3⟩ := HM.out i k hi5 hk5
                      cases h1 : N i m with
                      | false =>
                        have H0 : Hid (¬ (N i m = true ∧ N m k = true)) := fun h => by rw [h1] at h; cases h.1
                        rw [h1] at c1
                        clear h1 c2 c3 f3
                        go_wp2
                        go_roundw
                        case rel => exact ⟨k + 1, N, by omega, by go_num, HW.out.no hm5 hi5 hk5 H0.out, HM.out, HZ.out, hB, hsz⟩
                        case measure => simp [intOf]; omega
                      | true =>
                        cases h2 : N m k with
                        | false =>
                          have H0 : Hid (¬ (N i m = true ∧ N m k = true)) := fun h => by rw [h2] at h; cases h.2
                          rw [h1] at c1
                          rw [h2] at c2
                          clear h1 h2 c3 f3
                          go_wp2
                          go_roundw
                          case rel => exact ⟨k + 1, N, by omega, by go_num, HW.out.no hm5 hi5 hk5 H0.out, HM.out, HZ.out, hB, hsz⟩
                          case measure => simp [intOf]; omega
                        | true =>
                          have H1 : Hid (N i m = true) := h1
                          have H2 : Hid (N m k = true) := h2
                          rw [h1] at c1
                          rw [h2] at c2
                          clear h1 h2
                          go_wp2
                          go_roundw
                          case rel => exact ⟨k + 1, _, by omega, by go_num, HW.out.yes hm5 hi5 hk5 H1.out H2.out, HM.out.set hi5 hk5, HZ.out.apart (by omega) _ _, hB.setCell (p := ⟨w.heap.size + 1, _, none⟩) (Nat.le_succ _) _, by simpa using hsz⟩
                          case measure => simp [intOf]; omega
                    · obtain rfl : k = 5 := by omega
                      go_wp2
                      go_roundw
                      case rel => exact ⟨i + 1, N, by omega, by go_num, HW.out.line, HM.out, HZ.out, hB, hsz⟩
                      case measure => simp [intOf]; omega
                · obtain rfl : i = 5 := by omega
                  go_wp2
                  go_roundw
                  case rel => exact ⟨m + 1, by omega, by go_num, HM.out.congr HW.out.last, HZ.out, hB, hsz⟩
                  case measure => simp [intOf]; omega
            · obtain rfl : m = 5 := by omega
              have hrg : wr.rangeAt (w.heap.size + 1) 0 (wayCells l) := HM.out.range
              have hth : wr.there w.heap.size 0 25 := HZ.out.there
              clear HM HZ
              go_upto_region 21 with fail
              refine wp_region_lit ?_
              refine wpList_load_mid rfl 39 _ rfl (w.heap.size + 1) 0 rfl (wayCells l) _ hrg Tryd.underlying39 rfl (by kernel_rfl) ?_
              refine wpList_store_mid rfl 39 _ _ rfl w.heap.size 0 (wayCells l).toArray rfl rfl hth (by kernel_rfl) (way_one l) ?_
              have hB2 : Below w.heap.size w (wr.setCells w.heap.size 0 (wayCells l)) := below_cells hB (Nat.le_refl _) _ _
              have hr2 : (wr.setCells w.heap.size 0 (wayCells l)).rangeAt w.heap.size 0 (wayCells l) := World.rangeAt_setCells_same _ _ _ _ hth
              have hld : (loadVar 39 ⟨w.heap.size, 0, none⟩).run Tryd.prog (wr.setCells w.heap.size 0 (wayCells l)) = .ok (.agg (wayCells l).toArray) (wr.setCells w.heap.size 0 (wayCells l)) := run_loadVar_mid _ _ _ _ _ _ hr2 Tryd.underlying39 rfl (by kernel_rfl)
              rw [show (wayCells l).toArray.toList = wayCells l from rfl]
              generalize wr.setCells w.heap.size 0 (wayCells l) = wz at hB2 hr2 hld ⊢
              clear hr2 hrg hth
              go_wp2
              refine bodyPost_ret (v := .agg (wayCells l).toArray) ?_ rfl ⟨rfl, hB2⟩
              exact results_cell Tryd.results13 rfl hld
end Go.Proofs.YtbnliibgnnegeagDoor
