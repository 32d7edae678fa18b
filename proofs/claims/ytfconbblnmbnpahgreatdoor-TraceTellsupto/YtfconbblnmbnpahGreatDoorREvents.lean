/-
  frameref2.Events: what is wrong with some, by the document.
-/
import Derived.Test.YtfconbblnmbnpahGreatDoorJb2
import Derived.Test.YtfconbblnmbnpahGreatDoorJb1
import Derived.Deep.CutRange
import Derived.RangeFuncNested
namespace Go.Proofs.YtfconbblnmbnpahGreatDoor
open Go.RowKit

theorem evScan_skip : ∀ (l : List W4) (k : Nat), (∀ (j : Nat) e, j < k → l[j]? = some e → evBad e = 0) → evScan l = evScan (l.drop k)
  | _, 0, _ => rfl
  | [], k + 1, _ => rfl
  | e :: l, k + 1, h => by
    have h0 : evBad e = 0 := h 0 e (by omega) rfl
    rw [evScan, if_pos h0, evScan_skip l k (fun j x hj hx => h (j + 1) x (by omega) (by simpa using hx))]
    rfl
theorem evScan_hit {l : List W4} {k : Nat} {e : W4} (h : ∀ (j : Nat) e, j < k → l[j]? = some e → evBad e = 0) (he : l[k]? = some e) (hb : evBad e ≠ 0) : evScan l = evBad e := by
  rw [evScan_skip l k h]
  obtain ⟨hk, rfl⟩ := List.getElem?_eq_some_iff.1 he
  rw [List.drop_eq_getElem_cons hk, evScan, if_neg hb]
theorem evOut_iff (a b c d : Int) : evOut (a, b, c, d) = (decide (a < 0) || decide (1000000 < a) || (decide (b < -1) || decide (4 < b)) || (decide (c < 0) || decide (19 < c)) || (decide (d < 0) || decide (5 < d))) := rfl
set_option maxRecDepth 100000 in
set_option maxHeartbeats 8000000 in
theorem revents_any (l : List W4) (v : Value) (w : World) (hl : Wrs w v l) : Calls Tryz.prog 13 #[v] w fun e w' => e = .returned (.int .i64 (evchk l)) ∧ Below w.heap.size w w' := by
  obtain ⟨va, vc, rfl⟩ := hl.form
  have HL : Hid (Wrs w (.slice va l.length vc) l) := hl
  clear hl
  by_cases hlong : 2000 < l.length
  · have d0 : (2000 : Int) < (l.length : Int) := by omega
    rw [show evchk l = 4 by unfold evchk; rw [if_pos hlong]]
    go_enter Tryz.func13, Tryz.ntmps13
    go_wp2
    go_ret
    exact ⟨rfl, Below.refl _ _⟩
  · have d0 : decide ((2000 : Int) < (l.length : Int)) = false := decide_eq_false (by omega)
    have d0' : decide (2000 < l.length) = false := decide_eq_false hlong
    have HE : Hid (evchk l = evScan l) := by show _ = _; unfold evchk; rw [if_neg hlong]
    obtain ⟨R, hR⟩ : ∃ R, evchk l = R := ⟨_, rfl⟩
    rw [hR]
    have HR : Hid (evScan l = R) := by show _ = _; rw [← HE.out, hR]
    have hl2 : l.length ≤ 2000 := by omega
    clear HE hR hlong
    go_enter Tryz.func13, Tryz.ntmps13
    go_upto_region 4 with fail
    go_loopw [3] (fun i wr => ∃ k : Nat, k ≤ l.length ∧ i = .int .i64 k ∧ Hid (∀ (j : Nat) e, j < k → l[j]? = some e → evBad e = 0) ∧ Below w.heap.size w wr) (fun i _ => l.length - (intOf i).toNat)
    case atStart => exact ⟨0, Nat.zero_le _, rfl, fun j e hj => by omega, Below.refl _ _⟩
    case round =>
      obtain ⟨k, hk, rfl, HK, hB⟩ := hrel
      by_cases hkl : k < l.length
      · have hki : (k : Int) < (l.length : Int) := by omega
        obtain ⟨b, off, f, t, q, d, rfl, hlt, hx, c0, c1, c2, c3⟩ := HL.out.at hkl
        replace c0 := (hB.cell (p := ⟨b, _, none⟩) hlt).trans c0
        replace c1 := (hB.cell (p := ⟨b, _, none⟩) hlt).trans c1
        replace c2 := (hB.cell (p := ⟨b, _, none⟩) hlt).trans c2
        replace c3 := (hB.cell (p := ⟨b, _, none⟩) hlt).trans c3
        have HX : Hid (l[k]? = some (f, t, q, d)) := hx
        have HH : Hid (evBad (f, t, q, d) ≠ 0 → evBad (f, t, q, d) = R) := fun h => by rw [← HR.out, evScan_hit HK.out hx h]
        have hA : Below w.heap.size w (wr.alloc (.cells #[.int .i64 f, .int .i64 t, .int .i64 q, .int .i64 d] 32)) := hB.alloc hB.size _
        have hZ : (wr.alloc (.cells #[.int .i64 f, .int .i64 t, .int .i64 q, .int .i64 d] 32)).heap[wr.heap.size]? = some (.cells #[.int .i64 f, .int .i64 t, .int .i64 q, .int .i64 d] 32 (0, 0)) := World.alloc_heap_new _ _
        clear hx
        go_upto_region 7 with fail
        generalize wr.alloc (.cells #[.int .i64 f, .int .i64 t, .int .i64 q, .int .i64 d] 32) = w2 at hA hZ ⊢
        generalize wr.heap.size = eb at hZ ⊢
        have e0 : w2.cell? ⟨eb, 0, none⟩ = some (.int .i64 f) := by simp [World.cell?, hZ]
        have e1 : w2.cell? ⟨eb, 1, none⟩ = some (.int .i64 t) := by simp [World.cell?, hZ]
        have e2 : w2.cell? ⟨eb, 2, none⟩ = some (.int .i64 q) := by simp [World.cell?, hZ]
        have e3 : w2.cell? ⟨eb, 3, none⟩ = some (.int .i64 d) := by simp [World.cell?, hZ]
        clear c0 c1 c2 c3 hZ
        go_cut [55] from 18 to 54 (fun sb wx => sb = .bool (evOut (f, t, q, d)) ∧ wx = w2)
        case first =>
          by_cases h1 : f < 0
          · have k1 : decide (f < 0) = true := decide_eq_true h1
            clear h1
            have HO : Hid (evOut (f, t, q, d) = true) := by
              show _ = _
              rw [evOut_iff]
              simp [k1]
            go_wp2_with fail
            go_meet
            case rel => exact ⟨by rw [HO.out], rfl⟩
          have k1 : decide (f < 0) = false := decide_eq_false h1
          clear h1
          by_cases h2 : 1000000 < f
          · have k2 : decide (1000000 < f) = true := decide_eq_true h2
            clear h2
            have HO : Hid (evOut (f, t, q, d) = true) := by
              show _ = _
              rw [evOut_iff]
              simp [k1, k2]
            go_wp2_with fail
            go_meet
            case rel => exact ⟨by rw [HO.out], rfl⟩
          have k2 : decide (1000000 < f) = false := decide_eq_false h2
          clear h2
          by_cases h3 : t < -1
          · have k3 : decide (t < -1) = true := decide_eq_true h3
            clear h3
            have HO : Hid (evOut (f, t, q, d) = true) := by
              show _ = _
              rw [evOut_iff]
              simp [k1, k2, k3]
            go_wp2_with fail
            go_meet
            case rel => exact ⟨by rw [HO.out], rfl⟩
          have k3 : decide (t < -1) = false := decide_eq_false h3
          clear h3
          by_cases h4 : 4 < t
          · have k4 : decide (4 < t) = true := decide_eq_true h4
            clear h4
            have HO : Hid (evOut (f, t, q, d) = true) := by
              show _ = _
              rw [evOut_iff]
              simp [k1, k2, k3, k4]
            go_wp2_with fail
            go_meet
            case rel => exact ⟨by rw [HO.out], rfl⟩
          have k4 : decide (4 < t) = false := decide_eq_false h4
          clear h4
          by_cases h5 : q < 0
          · have k5 : decide (q < 0) = true := decide_eq_true h5
            clear h5
            have HO : Hid (evOut (f, t, q, d) = true) := by
              show _ = _
              rw [evOut_iff]
              simp [k1, k2, k3, k4, k5]
            go_wp2_with fail
            go_meet
            case rel => exact ⟨by rw [HO.out], rfl⟩
          have k5 : decide (q < 0) = false := decide_eq_false h5
          clear h5
          by_cases h6 : 19 < q
          · have k6 : decide (19 < q) = true := decide_eq_true h6
            clear h6
            have HO : Hid (evOut (f, t, q, d) = true) := by
              show _ = _
              rw [evOut_iff]
              simp [k1, k2, k3, k4, k5, k6]
            go_wp2_with fail
            go_meet
            case rel => exact ⟨by rw [HO.out], rfl⟩
          have k6 : decide (19 < q) = false := decide_eq_false h6
          clear h6
          by_cases h7 : d < 0
          · have k7 : decide (d < 0) = true := decide_eq_true h7
            clear h7
            have HO : Hid (evOut (f, t, q, d) = true) := by
              show _ = _
              rw [evOut_iff]
              simp [k1, k2, k3, k4, k5, k6, k7]
            go_wp2_with fail
            go_meet
            case rel => exact ⟨by rw [HO.out], rfl⟩
          have k7 : decide (d < 0) = false := decide_eq_false h7
          clear h7
          by_cases h8 : 5 < d
          · have k8 : decide (5 < d) = true := decide_eq_true h8
            clear h8
            have HO : Hid (evOut (f, t, q, d) = true) := by
              show _ = _
              rw [evOut_iff]
              simp [k1, k2, k3, k4, k5, k6, k7, k8]
            go_wp2_with fail
            go_meet
            case rel => exact ⟨by rw [HO.out], rfl⟩
          have k8 : decide (5 < d) = false := decide_eq_false h8
          clear h8
          have HO : Hid (evOut (f, t, q, d) = false) := by
            show _ = _
            rw [evOut_iff]
            simp [k1, k2, k3, k4, k5, k6, k7, k8]
          go_wp2_with fail
          go_meet
          case rel => exact ⟨by rw [HO.out], rfl⟩
        case rest =>
        obtain ⟨rfl, hwc⟩ := hcut
        rw [hwc]
        clear hwc wc
        cases hev : evOut (f, t, q, d) with
        | true =>
          have HV : Hid (R = 1) := by
            have e : evBad (f, t, q, d) = 1 := by unfold evBad; rw [if_pos hev]
            show R = 1
            rw [← e]
            exact (HH.out (by rw [e]; decide)).symm
          clear hev
          go_wp2
          go_ret
          exact ⟨wretI HV.out.symm, hA⟩
        | false =>
          by_cases hs : t = -1 ∧ (q ≠ 0 ∨ d ≠ 0)
          · have HV : Hid (R = 3) := by
              have e : evBad (f, t, q, d) = 3 := by unfold evBad; rw [if_neg (by rw [hev]; simp), if_pos hs]
              show R = 3
              rw [← e]
              exact (HH.out (by rw [e]; decide)).symm
            obtain ⟨hs1, hs2⟩ := hs
            subst hs1
            clear hev
            by_cases hq : q = 0
            · subst hq
              have kd : (d == 0) = false := by simpa using hs2.resolve_left (by simp)
              clear hs2
              go_wp2
              go_ret
              exact ⟨wretI HV.out.symm, hA⟩
            · have kq : (q == 0) = false := by simpa using hq
              clear hs2 hq
              go_wp2
              go_ret
              exact ⟨wretI HV.out.symm, hA⟩
          · have HV : Hid (evBad (f, t, q, d) = 0) := by
              show _ = _
              unfold evBad
              rw [if_neg (by rw [hev]; simp), if_neg hs]
            clear hev
            have HN : Hid (∀ (j : Nat) e, j < k + 1 → l[j]? = some e → evBad e = 0) := fun j e hj he => by
              by_cases hjk : j = k
              · subst hjk
                rw [HX.out] at he
                obtain rfl := Option.some.inj he
                exact HV.out
              · exact HK.out j e (by omega) he
            by_cases ht : t = -1
            · have hq : q = 0 := by
                by_cases h : q = 0
                · exact h
                · exact absurd ⟨ht, Or.inl h⟩ hs
              have hd : d = 0 := by
                by_cases h : d = 0
                · exact h
                · exact absurd ⟨ht, Or.inr h⟩ hs
              subst ht
              subst hq
              subst hd
              clear hs
              go_wp2
              go_roundw
              case rel => exact ⟨k + 1, by omega, by go_num, HN.out, hA⟩
              case measure => simp [intOf]; omega
            · have kt : (t == -1) = false := by simpa using ht
              clear hs ht
              go_wp2
              go_roundw
              case rel => exact ⟨k + 1, by omega, by go_num, HN.out, hA⟩
              case measure => simp [intOf]; omega
      · have hki : decide ((k : Int) < (l.length : Int)) = false := decide_eq_false (by omega)
        have hkn : decide (k < l.length) = false := decide_eq_false hkl
        have HV : Hid (R = 0) := by
          show R = 0
          rw [← HR.out, evScan_zero]
          intro e he
          obtain ⟨j, hj⟩ := List.mem_iff_getElem?.1 he
          exact HK.out j e (by have := (List.getElem?_eq_some_iff.1 hj).1; omega) hj
        go_wp2
        go_ret
        exact ⟨wretI HV.out.symm, hB⟩
end Go.Proofs.YtfconbblnmbnpahGreatDoor
