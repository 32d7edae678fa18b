/-
  flow.Levels: does no wire lead down?
-/
import Derived.Test.YtbnliibgnnegeagFlIdx
namespace Go.Proofs.Ytbnliibgnnegeag
open Go.RowKit

/-- A room's level. -/
def lvl (lv : List Int) (r : Int) : Int := lv.getD r.toNat 0
/-- Does a wire lead down? -/
def dwn (lv : List Int) (x : W4) : Bool := decide (lvl lv x.2.1 < lvl lv x.1)
/-- What is wrong with levels of wires. -/
def lvE (l : List W4) (lv : List Int) : Int := if (wschk l).2 ≠ 0 then (wschk l).2 else if lv.length ≠ 5 then 3 else if l.any (dwn lv) then 8 else 0
theorem lvE_bad {l : List W4} {lv : List Int} (h : (wschk l).2 ≠ 0) : lvE l lv = (wschk l).2 := by rw [lvE, if_pos h]
theorem lvE_shape {l : List W4} {lv : List Int} (h : (wschk l).2 = 0) (h5 : lv.length ≠ 5) : lvE l lv = 3 := by rw [lvE, if_neg (by simpa using h), if_pos h5]
theorem lvE_down {l : List W4} {lv : List Int} (h : (wschk l).2 = 0) (h5 : lv.length = 5) {x : W4} (hx : x ∈ l) (hd : dwn lv x = true) : lvE l lv = 8 := by
  rw [lvE, if_neg (by simpa using h), if_neg (by simpa using h5), if_pos (List.any_eq_true.2 ⟨x, hx, hd⟩)]
theorem lvE_ok {l : List W4} {lv : List Int} (h : (wschk l).2 = 0) (h5 : lv.length = 5) (hd : ∀ (j : Nat) y, j < l.length → l[j]? = some y → dwn lv y = false) : lvE l lv = 0 := by
  rw [lvE, if_neg (by simpa using h), if_neg (by simpa using h5), if_neg]
  intro hh
  obtain ⟨x, hx, hdx⟩ := List.any_eq_true.1 hh
  obtain ⟨j, hj⟩ := List.mem_iff_getElem?.1 hx
  rw [hd j x (List.getElem?_eq_some_iff.1 hj).1 hj] at hdx
  cases hdx
theorem Stp.lv {w : World} {ao : Option Addr} {cap : Nat} {lv : List Int} (h : Stp w (.slice ao lv.length cap) lv) (h5 : lv.length = 5) : ∃ b off, ao = some ⟨b, off, none⟩ ∧ ∀ wr, Below w.heap.size w wr → ∀ r : Nat, r < 5 → wr.cell? ⟨b, off + r, none⟩ = some (.int .i64 (lvl lv r)) := by
  rcases h with ⟨rfl, _⟩ | ⟨b, off, cap', e, hlt, hc⟩
  · simp at h5
  · injection e with e1
    refine ⟨b, off, e1, fun wr hb r hr => (hb.cell (p := ⟨b, _, none⟩) hlt).trans (hc r _ ?_)⟩
    unfold lvl
    rw [Int.toNat_natCast, List.getD_eq_getElem?_getD, List.getElem?_eq_getElem (by omega)]
    rfl

set_option maxRecDepth 100000 in
set_option maxHeartbeats 4000000 in
theorem levels_any (l : List W4) (lv : List Int) (v u : Value) (w : World) (hl : Wrs w v l) (hu : Stp w u lv) :
    Calls Try.prog 6 #[v, u] w fun e w' => e = .returned (wErr (lvE l lv)) ∧ Below w.heap.size w w' := by
  have hc := flcheck_any l v w hl
  obtain ⟨ao, cap, rfl⟩ := hl.form
  have HL : Hid (Wrs w (.slice ao l.length cap) l) := hl
  obtain ⟨lo, lc, rfl⟩ := hu.form
  have HU : Hid (Stp w (.slice lo lv.length lc) lv) := hu
  clear hl hu
  obtain ⟨p, hp⟩ : ∃ q, q = (wschk l).1 := ⟨_, rfl⟩
  rw [← hp] at hc
  clear hp
  by_cases h : (wschk l).2 = 0
  · rw [h, show wErr 0 = .nilIface from rfl] at hc
    have HK : Hid (∀ x ∈ l, w4chk x = 0) := (wschk_ok h).2
    have hlen := (wschk_ok h).1
    by_cases h5 : lv.length = 5
    · have HO : Hid ((∀ (j : Nat) y, j < l.length → l[j]? = some y → dwn lv y = false) → lvE l lv = 0) := lvE_ok h h5
      have HD : Hid (∀ x ∈ l, dwn lv x = true → lvE l lv = 8) := fun x hx => lvE_down h h5 hx
      obtain ⟨lb, lf, rfl, hlv⟩ := Stp.lv HU.out h5
      have HV : Hid (∀ wr, Below w.heap.size w wr → ∀ r : Nat, r < 5 → wr.cell? ⟨lb, lf + r, none⟩ = some (.int .i64 (lvl lv r))) := hlv
      rw [h5]
      clear h HU hlv h5
      go_enter Try.func6, Try.ntmps6
      go_wp2_with (go_at_call 10; refine hc.mono ?_; rintro e w1 ⟨rfl, b1⟩; clear hc)
      go_loopw [23] (fun i wr => ∃ k : Nat, k ≤ l.length ∧ i = .int .i64 k ∧ Hid (∀ (j : Nat) y, j < k → l[j]? = some y → dwn lv y = false) ∧ Below w.heap.size w wr) (fun i _ => l.length - (intOf i).toNat)
      case atStart => exact ⟨0, Nat.zero_le _, rfl, fun j y hj => by omega, b1⟩
      case round =>
        clear b1
        obtain ⟨k, hk, rfl, HS, hB⟩ := hrel
        by_cases hkl : k < l.length
        · have hki : (k : Int) < (l.length : Int) := by omega
          obtain ⟨b, off, f, t, kd, d, rfl, hlt, hx, c0, c1, c2, c3⟩ := HL.out.at hkl
          have hmem := List.mem_of_getElem? hx
          have hr := w4_rooms (HK.out _ hmem)
          have HDM : Hid (dwn lv (f, t, kd, d) = true → lvE l lv = 8) := HD.out _ hmem
          simp only at hr
          obtain ⟨fi, rfl⟩ : ∃ n : Nat, f = n := ⟨f.toNat, by omega⟩
          obtain ⟨ti, rfl⟩ : ∃ n : Nat, t = n := ⟨t.toNat, by omega⟩
          obtain ⟨_, hf5, _, ht5, _⟩ := hr
          have HX : Hid (l[k]? = some ((fi : Int), (ti : Int), kd, d)) := hx
          have hf5' : (fi : Int) < 5 := hf5
          have ht5' : (ti : Int) < 5 := ht5
          replace c0 := (hB.cell (p := ⟨b, _, none⟩) hlt).trans c0
          replace c1 := (hB.cell (p := ⟨b, _, none⟩) hlt).trans c1
          replace c2 := (hB.cell (p := ⟨b, _, none⟩) hlt).trans c2
          replace c3 := (hB.cell (p := ⟨b, _, none⟩) hlt).trans c3
          have hB2 := hB.alloc hB.size (.cells #[.int .i64 (fi : Int), .int .i64 (ti : Int), .int .i64 kd, .int .i64 d] 29)
          have d0 := HV.out _ hB2 fi (by omega)
          have d1 := HV.out _ hB2 ti (by omega)
          clear hx hmem
          have HDW : Hid (dwn lv ((fi : Int), (ti : Int), kd, d) = decide (lvl lv (ti : Int) < lvl lv (fi : Int))) := rfl
          generalize lvl lv (fi : Int) = qf at d0 HDW
          generalize lvl lv (ti : Int) = qt at d1 HDW
          by_cases hd : qt < qf
          · have HF : Hid (lvE l lv = 8) := HDM.out (by rw [HDW.out]; simpa using hd)
            clear HDM HDW HX
            go_wp2
            go_quiet (fail)
            go_wp2
            go_ret
            rw [HF.out]
            exact ⟨rfl, below_dN hB2 _⟩
          · have hd' : decide (qt < qf) = false := by simpa using hd
            have HF : Hid (dwn lv ((fi : Int), (ti : Int), kd, d) = false) := by show _ = _; rw [HDW.out]; exact hd'
            clear HDM HDW
            go_wp2
            go_quiet (fail)
            go_wp2
            go_roundw
            case rel =>
              refine ⟨k + 1, by omega, by go_num, fun j y hj hy => ?_, below_dN hB2 _⟩
              by_cases hjk : j < k
              · exact HS.out j y hjk hy
              · obtain rfl : j = k := by omega
                rw [HX.out] at hy
                obtain rfl := Option.some.inj hy
                exact HF.out
            case measure => simp [intOf]; omega
        · have hki : decide ((k : Int) < (l.length : Int)) = false := by simp; omega
          have hkn : decide (k < l.length) = false := by simp; omega
          have HF : Hid (lvE l lv = 0) := HO.out (fun j y hj hy => HS.out j y (by omega) hy)
          clear HO HD
          go_wp2
          go_ret
          rw [HF.out]
          exact ⟨rfl, hB⟩
    · have HF : Hid (lvE l lv = 3) := lvE_shape h h5
      have h5i : ¬ ((lv.length : Int) = 5) := by omega
      clear h
      go_enter Try.func6, Try.ntmps6
      go_wp2_with (go_at_call 10; refine hc.mono ?_; rintro e w1 ⟨rfl, b1⟩; clear hc)
      go_ret
      rw [HF.out]
      exact ⟨rfl, b1⟩
  · have HF : Hid (lvE l lv = (wschk l).2) := lvE_bad h
    have HE : Hid (wErr (wschk l).2 = .iface 44 (.int .i64 (wschk l).2)) := wErr_not h
    rw [wErr_not h] at hc
    obtain ⟨q, hq⟩ : ∃ q, q = (wschk l).2 := ⟨_, rfl⟩
    rw [← hq] at hc HF HE
    clear hq h
    go_enter Try.func6, Try.ntmps6
    go_wp2_with (go_at_call 10; refine hc.mono ?_; rintro e w1 ⟨rfl, b1⟩; clear hc)
    go_ret
    rw [HF.out, HE.out]
    exact ⟨rfl, b1⟩
end Go.Proofs.Ytbnliibgnnegeag
