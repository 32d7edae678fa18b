/-
  framesame.Code: whether two are the same; of any code.
-/
import Derived.Test.YtamnfadngbbaeacGreatDoorBaseA
import Derived.Deep.QuietTactic
import Derived.BigQuiet
import Derived.Laws.StructEq
import Derived.WalkSmall
namespace Go.Proofs.YtamnfadngbbaeacGreatDoor
open Go.RowKit

theorem fieldsOp : Tryz.prog.underlying 73 = some (.struct (Tryz.prog.fieldsOf 73)) := by kernel_rfl
theorem stoodOp : Tryz.prog.stoodInHeld 73 = false := by kernel_rfl
theorem fieldsOpIs : Tryz.prog.fieldsOf 73 = #[{ name := "What", type := 3, offset := 0, embedded := false, tag := "", pkgPath := "", byteOffset := 0 }, { name := "A", type := 3, offset := 1, embedded := false, tag := "", pkgPath := "", byteOffset := 8 }, { name := "B", type := 3, offset := 2, embedded := false, tag := "", pkgPath := "", byteOffset := 16 }] := by kernel_rfl
theorem guardOp : Tryz.prog.eqGuardType Tryz.prog.depth 73 = false := by kernel_rfl
theorem neq_op (x y : O3) (w : World) : (binOp .neq 73 (.agg #[.int .i64 x.1, .int .i64 x.2.1, .int .i64 x.2.2]) (.agg #[.int .i64 y.1, .int .i64 y.2.1, .int .i64 y.2.2])).run Tryz.prog w = .ok (.bool (!(decide (x = y)))) w := by
  rw [run_neq_struct, run_equalIn_agg _ _ _ _ _ fieldsOp stoodOp, fieldsOpIs]
  obtain ⟨a, b, c⟩ := x
  obtain ⟨a', b', c'⟩ := y
  simp [go_sem, Tryz.underlying3]
  by_cases h1 : a = a' <;> by_cases h2 : b = b' <;> by_cases h3 : c = c' <;> simp [h1, h2, h3]

set_option maxRecDepth 1000000 in
set_option maxHeartbeats 4000000 in
theorem same_some (la lb : List O3) (a ao ac b bo bc : Nat) (w : World) (ha : a < w.heap.size) (hb : b < w.heap.size) (hlen : la.length = lb.length) (hl : la.length ≤ 1099511627776)
    (hca : ∀ (i : Nat) o, la[i]? = some o → w.cell? ⟨a, ao + i * 3, none⟩ = some (.int .i64 o.1) ∧ w.cell? ⟨a, ao + i * 3 + 1, none⟩ = some (.int .i64 o.2.1) ∧ w.cell? ⟨a, ao + i * 3 + 2, none⟩ = some (.int .i64 o.2.2))
    (hcb : ∀ (i : Nat) o, lb[i]? = some o → w.cell? ⟨b, bo + i * 3, none⟩ = some (.int .i64 o.1) ∧ w.cell? ⟨b, bo + i * 3 + 1, none⟩ = some (.int .i64 o.2.1) ∧ w.cell? ⟨b, bo + i * 3 + 2, none⟩ = some (.int .i64 o.2.2)) :
    Calls Tryz.prog 33 #[.slice (some ⟨a, ao, none⟩) la.length ac, .slice (some ⟨b, bo, none⟩) la.length bc] w fun e w' => e = .returned (.bool (decide (la = lb))) ∧ Below w.heap.size w w' := by
  have HL : Hid (la.length = lb.length) := hlen
  clear hlen
  go_enter Tryz.func33, Tryz.ntmps33
  go_wp2
  go_loopw [5] (fun i wr => ∃ k : Nat, k ≤ la.length ∧ i = .int .i64 k ∧ (∀ j : Nat, j < k → la[j]? = lb[j]?) ∧ Below w.heap.size w wr) (fun i _ => la.length - (intOf i).toNat)
  case atStart => exact ⟨0, Nat.zero_le _, rfl, fun j hj => by omega, Below.refl _ _⟩
  case round =>
    obtain ⟨k, hk, rfl, hall, hbw⟩ := hrel
    have HA : Hid (∀ j : Nat, j < k → la[j]? = lb[j]?) := hall
    clear hall
    by_cases hkl : k < la.length
    · obtain ⟨o, ho⟩ : ∃ o, la[k]? = some o := ⟨la[k], List.getElem?_eq_getElem hkl⟩
      obtain ⟨p, hp⟩ : ∃ p, lb[k]? = some p := ⟨lb[k]'(by rw [← HL.out]; exact hkl), List.getElem?_eq_getElem _⟩
      obtain ⟨c0, c1, c2⟩ := hca k o ho
      obtain ⟨d0, d1, d2⟩ := hcb k p hp
      have e0 := (hbw.cell (p := ⟨a, ao + k * 3, none⟩) ha).trans c0
      have e1 := (hbw.cell (p := ⟨a, ao + k * 3 + 1, none⟩) ha).trans c1
      have e2 := (hbw.cell (p := ⟨a, ao + k * 3 + 2, none⟩) ha).trans c2
      have f0 := (hbw.cell (p := ⟨b, bo + k * 3, none⟩) hb).trans d0
      have f1 := (hbw.cell (p := ⟨b, bo + k * 3 + 1, none⟩) hb).trans d1
      have f2 := (hbw.cell (p := ⟨b, bo + k * 3 + 2, none⟩) hb).trans d2
      have HO : Hid (la[k]? = some o) := ho
      have HP : Hid (lb[k]? = some p) := hp
      clear c0 c1 c2 d0 d1 d2 ho hp
      have hki : (k : Int) < (la.length : Int) := by omega
      have hgd := guardOp
      have hnq := neq_op o p
      by_cases hop : o = p
      · have hdd : decide (o = p) = true := by simpa using hop
        rw [hdd] at hnq
        have HE : Hid (o = p) := hop
        clear hop hdd
        go_wp2
        go_quiet (fail)
        go_wp2
        go_roundw
        case rel =>
          refine ⟨k + 1, by omega, by go_num, fun j hj => ?_, below_drewN hbw _⟩
          by_cases hjk : j < k
          · exact HA.out j hjk
          · obtain rfl : j = k := by omega
            rw [HO.out, HP.out, HE.out]
        case measure => simp [intOf]; omega
      · have hdd : decide (o = p) = false := by simpa using hop
        rw [hdd] at hnq
        have HN : Hid (decide (la = lb) = false) := by
          show _ = _
          simp only [decide_eq_false_iff_not]
          intro e
          have h1 := HO.out
          rw [e, HP.out] at h1
          exact hop (Option.some.inj h1).symm
        clear hop hdd
        go_wp2
        go_quiet (fail)
        go_wp2
        go_ret
        exact ⟨ret_bool HN.out.symm, below_drewN hbw _⟩
    · have HN : Hid (decide (la = lb) = true) := by
        show _ = _
        simp only [decide_eq_true_eq]
        apply List.ext_getElem?
        intro j
        by_cases hj : j < k
        · exact HA.out j hj
        · rw [List.getElem?_eq_none (by omega), List.getElem?_eq_none (by rw [← HL.out]; omega)]
      go_wp2
      go_ret
      exact ⟨ret_bool HN.out.symm, hbw⟩

set_option maxRecDepth 1000000 in
set_option maxHeartbeats 4000000 in
theorem same_other (n m ac bc : Nat) (a b : Option Addr) (w : World) (h : ((n : Int) == (m : Int)) = false) :
    Calls Tryz.prog 33 #[.slice a n ac, .slice b m bc] w fun e w' => e = .returned (.bool false) ∧ Below w.heap.size w w' := by
  go_enter Tryz.func33, Tryz.ntmps33
  go_wp2
  go_ret
  exact ⟨rfl, Below.refl _ _⟩
set_option maxRecDepth 1000000 in
set_option maxHeartbeats 4000000 in
theorem same_nil (ac bc : Nat) (a b : Option Addr) (w : World) :
    Calls Tryz.prog 33 #[.slice a 0 ac, .slice b 0 bc] w fun e w' => e = .returned (.bool true) ∧ Below w.heap.size w w' := by
  go_enter Tryz.func33, Tryz.ntmps33
  go_wp2
  refine wp_loop_rounds 1 ?_
  rw [rounds_succ]
  go_wp2
  go_ret
  exact ⟨rfl, Below.refl _ _⟩
theorem same_any (va vb : Value) (la lb : List O3) (w : World) (ha : Ops w va la) (hb : Ops w vb lb) (hl : la.length ≤ 1099511627776) :
    Calls Tryz.prog 33 #[va, vb] w fun e w' => e = .returned (.bool (decide (la = lb))) ∧ Below w.heap.size w w' := by
  by_cases hlen : la.length = lb.length
  · rcases ha with ⟨rfl, ao, ac, rfl⟩ | ⟨a, ao, ac, rfl, hlta, hca⟩
    · have hlb : lb = [] := List.eq_nil_of_length_eq_zero (by simpa using hlen.symm)
      subst hlb
      obtain ⟨bo, bc, hvb⟩ := hb.form
      rw [hvb]
      exact same_nil ac bc ao bo w
    · rcases hb with ⟨rfl, bo, bc, rfl⟩ | ⟨b, bo, bc, rfl, hltb, hcb⟩
      · have hla : la = [] := List.eq_nil_of_length_eq_zero (by simpa using hlen)
        subst hla
        exact same_nil ac bc _ bo w
      · rw [← hlen]
        exact same_some la lb a ao ac b bo bc w hlta hltb hlen hl hca hcb
  · obtain ⟨ao, ac, rfl⟩ := ha.form
    obtain ⟨bo, bc, rfl⟩ := hb.form
    rw [show decide (la = lb) = false by simp only [decide_eq_false_iff_not]; intro e; exact hlen (by rw [e])]
    exact same_other _ _ _ _ _ _ w (by simp; omega)
end Go.Proofs.YtamnfadngbbaeacGreatDoor
