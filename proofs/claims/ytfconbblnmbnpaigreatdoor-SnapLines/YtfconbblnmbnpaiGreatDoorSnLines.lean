/-
  The law SnapLines: the walk, under what packages kernel and snap do.
-/
import Derived.Test.YtfconbblnmbnpaiGreatDoorJa4
import Derived.Test.YtfconbblnmbnpaiGreatDoorJa16
import Derived.Test.YtfconbblnmbnpaiGreatDoorJa3
import Derived.Deep.CutRange
import Derived.Deep.RegionWith
import Derived.Deep.RegionHeld3
import Derived.BigQuiet
import Derived.RangeFuncNested
namespace Go.Proofs.YtfconbblnmbnpaiGreatDoor
open Go.RowKit

theorem cnt_empty : snE (cntP 1) [] = 2 := by decide +kernel
theorem snB_pieces {p : PD} {k : KD} (hp : plchk p = 0) (hk : KOk p k) : (cutB 10 (snB k)).length = 1 + p.code.length + p.wires.length + 1 := by
  rw [sn_cut hk.time (fun s hs n hn => (room_of hp hk hs n hn).1) (fun l hl n hn => ?_), List.length_append, snL_len, hk.rl, hk.ll, List.length_singleton]
  obtain ⟨x, _, ho⟩ := line_of hk hl
  rcases List.mem_cons.1 hn with rfl | hn
  · exact ho.ls
  · exact (ho.xs n hn).1
set_option maxRecDepth 100000 in
set_option maxHeartbeats 8000000 in
theorem slines_of {G : World → Prop} (C : KerC G) (SS : SnpSave C) (SN : SnpNo C) (hE : ∀ (e : Int) (W : World), G W → Calls Tryz.prog 11 #[wErr e, .int .i64 e] W fun r w' => r = .returned (.bool true) ∧ Below W.heap.size W w')
    (p : PD) (vc vs vw : Value) (n : Int) (w : World) (hG : G w) (hP : Pln w vc vs vw p) :
    Calls Tryz.prog 4 #[plV vc p.ticks vs vw, .int .i64 n] w fun e w' => e = .returned (.bool true) ∧ Below w.heap.size w w' := by
  obtain ⟨ca, cc, rfl⟩ := hP.code.form
  obtain ⟨sa, sc, rfl⟩ := hP.spans.form
  obtain ⟨wa, wc', rfl⟩ := hP.wires.form
  have hx0 := Bx.first w (.slice ca p.code.length cc) p.ticks (.slice sa p.spans.length sc) (.slice wa p.wires.length wc')
  have HG : Hid (∀ W, Below w.heap.size w W → G W) := fun W hb => C.all w W hG hb
  have HP : Hid (Pln w (.slice ca p.code.length cc) (.slice sa p.spans.length sc) (.slice wa p.wires.length wc') p) := hP
  have HC : Hid (∀ W, Calls Tryz.prog 10 #[.int .i64 1] W fun e w' => ∃ vc vs, e = .returned (.agg #[vc, .int .i64 1, vs, .slice none 0 0]) ∧ Pln w' vc vs (.slice none 0 0) (cntP 1) ∧ Below W.heap.size W w') := fun W => counting_plan 1 W (by omega)
  have HL : Hid (∀ vc vs W, Below w.heap.size w W → Pln W vc vs (.slice none 0 0) (cntP 1) → Calls Tryz.prog 7 #[.agg #[vc, .int .i64 1, vs, .slice none 0 0], .string ⟨#[]⟩] W fun e w' => ∃ x, e = .returned (.tuple #[.pointer x, .iface 66 (.int .i64 2)]) ∧ Below W.heap.size W w') := fun vc vs W hb hP => by
    have := SN (cntP 1) vc vs (.slice none 0 0) ⟨#[]⟩ W (HG.out W hb) hP (by show 0 ≤ _; omega) (by show snE (cntP 1) [] ≠ 0; rw [cnt_empty]; decide)
    rw [show snE (cntP 1) (ByteArray.mk #[]).data.toList = 2 from cnt_empty] at this
    exact this
  have HE : Hid (∀ W, Below w.heap.size w W → Calls Tryz.prog 11 #[.iface 66 (.int .i64 2), .int .i64 2] W fun r w' => r = .returned (.bool true) ∧ Below W.heap.size W w') := fun W hb => hE 2 W (HG.out W hb)
  unfold plV
  by_cases hp : plchk p = 0
  case neg =>
    have HK : Hid (∀ W, Below w.heap.size w W → Calls Tryz.prog 5 #[.agg #[.slice ca p.code.length cc, .int .i64 p.ticks, .slice sa p.spans.length sc, .slice wa p.wires.length wc']] W fun e w' => ∃ x, e = .returned (.tuple #[.pointer x, .iface 66 (.int .i64 (plchk p))]) ∧ Below W.heap.size W w') := fun W hb => by
      have := C.no p _ _ _ W (HG.out W hb) (HP.out.all hb) hp
      rw [wErr_not hp] at this
      exact this
    generalize plchk p = z at HK hp
    clear hP hG hE hp
    go_enter Tryz.func4, Tryz.ntmps4
    go_wp2_with (first
      | (go_at_call 10; refine (HC.out _).mono ?_; rintro e w1 ⟨uc, us, rfl, hPc, b1⟩; have hx1 := hx0.step b1; have q2 := HL.out uc us w1 hx1.below hPc)
      | (go_at_call 7; refine q2.mono ?_; rintro e w2 ⟨xp, rfl, b2⟩; clear q2; have hx2 := hx1.step b2; have q3 := HE.out w2 hx2.below)
      | (go_at_call 11; refine q3.mono ?_; rintro e w3 ⟨rfl, b3⟩; clear q3; have hx3 := hx2.step b3; have k0 := hx3.c0; have k1 := hx3.c1; have k2 := hx3.c2; have k3 := hx3.c3; have q4 := HK.out w3 hx3.below)
      | (go_at_call 5; refine q4.mono ?_; rintro e w4 ⟨xk, rfl, b4⟩; clear q4))
    go_ret
    exact ⟨rfl, (hx3.step b4).below⟩
  have HK : Hid (∀ W, Below w.heap.size w W → Calls Tryz.prog 5 #[.agg #[.slice ca p.code.length cc, .int .i64 p.ticks, .slice sa p.spans.length sc, .slice wa p.wires.length wc']] W fun e w' => ∃ kb F, e = .returned (.tuple #[.pointer (some ⟨kb, 0, none⟩), .nilIface]) ∧ C.K W w' p (.slice ca p.code.length cc) (.slice sa p.spans.length sc) (.slice wa p.wires.length wc') (newK p) kb F) := fun W hb => C.new p _ _ _ W (HG.out W hb) (HP.out.all hb) hp
  have HZ : Hid (plchk p = 0) := hp
  clear hP hG hE hp
  go_enter Tryz.func4, Tryz.ntmps4
  go_upto_region 8 with (first
    | (go_at_call 10; refine (HC.out _).mono ?_; rintro e w1 ⟨uc, us, rfl, hPc, b1⟩; have hx1 := hx0.step b1; have q2 := HL.out uc us w1 hx1.below hPc)
    | (go_at_call 7; refine q2.mono ?_; rintro e w2 ⟨xp, rfl, b2⟩; clear q2; have hx2 := hx1.step b2; have q3 := HE.out w2 hx2.below)
    | (go_at_call 11; refine q3.mono ?_; rintro e w3 ⟨rfl, b3⟩; clear q3; have hx3 := hx2.step b3; have k0 := hx3.c0; have k1 := hx3.c1; have k2 := hx3.c2; have k3 := hx3.c3; have q4 := HK.out w3 hx3.below)
    | (go_at_call 5; refine q4.mono ?_; rintro e w4 ⟨kb, F, rfl, hK⟩; clear q4; have hx4 := hx3.step (C.since hK)))
  have HG3 : Hid (G w3) := HG.out w3 hx3.below
  have hs3 := hx3.size
  have hxw : Hid (∀ W, Below w3.heap.size w3 W → Bx w W (.slice ca p.code.length cc) p.ticks (.slice sa p.spans.length sc) (.slice wa p.wires.length wc')) := fun W hb => hx3.step hb
  clear HK HC HL HE hPc k0 k1 k2 k3 b1 b2 b3 hx0 hx1 hx2 hx3
  go_loopw [9] (fun s9 wr => ∃ (i : Nat) (F : List Nat), i ≤ 50 ∧ s9 = .int .i64 i ∧ C.K w3 wr p (.slice ca p.code.length cc) (.slice sa p.spans.length sc) (.slice wa p.wires.length wc') (kT p i) kb F) (fun s _ => 50 - (intOf s).toNat)
  case atStart => exact ⟨0, F, Nat.zero_le _, rfl, hK⟩
  case round =>
  clear hK hx4
  obtain ⟨i, F1, hi, rfl, hK⟩ := hrel
  by_cases hgo : (i : Int) < n ∧ i < 50
  case neg =>
    have hok := kT_ok HZ.out i
    have hsm : SnSmall (kT p i) := (kT_kept HZ.out (by omega)).small HZ.out
    have hx := hxw.out wr (C.since hK)
    have q1 := SS _ _ _ HG3.out hK (HP.out.all hx.below) HZ.out hok hsm
    unfold plV at q1
    have HCt : Hid (∀ W, Calls Tryz.prog 12 #[.string ⟨(snB (kT p i)).toArray⟩, .int .u8 10] W fun e w' => ∃ g cap, e = .returned (.slice (some ⟨g, 0, none⟩) (1 + p.code.length + p.wires.length + 1) cap) ∧ Below W.heap.size W w') := fun W => by
      have hl := snB_len hsm
      refine (cut_any ⟨(snB (kT p i)).toArray⟩ 10 10 rfl W (by show (snB (kT p i)).toArray.size ≤ _; simp; omega)).mono ?_
      rintro e w' ⟨v, rfl, ho, hb⟩
      have hpc := snB_pieces HZ.out hok
      simp only at ho
      rw [hpc] at ho
      obtain ⟨g, cap, rfl⟩ := own_succ ho
      exact ⟨g, cap, rfl, hb⟩
    have hn5 := (plchk_zero HZ.out).1
    have hn12 := (wschk_ok (plchk_zero HZ.out).2.2.2.1).1
    have k0 := hx.c0
    have k1 := hx.c1
    have k2 := hx.c2
    have k3 := hx.c3
    have HBx : Hid (Bx w wr (.slice ca p.code.length cc) p.ticks (.slice sa p.spans.length sc) (.slice wa p.wires.length wc')) := hx
    have hsz := hx.size
    generalize snB (kT p i) = sb at q1 HCt
    obtain ⟨N, hN⟩ : ∃ N, 1 + p.code.length + p.wires.length + 1 = N := ⟨_, rfl⟩
    have HEQ : Hid (((N : Int) == IntKind.i64.wrap (IntKind.i64.wrap (2 + (p.code.length : Int)) + (p.wires.length : Int))) = true) := by
      show _ = _
      have e1 : IntKind.i64.wrap (2 + (p.code.length : Int)) = 2 + (p.code.length : Int) := IntWalk.i64_in _ (by omega)
      rw [e1, IntWalk.i64_in _ (by omega)]
      simp
      omega
    rw [hN] at HCt
    clear hK hok hsm hx hN
    go_upto_region 8 with fail
    go_cut [33] from 27 to 32 (fun s33 wx => s33 = .bool false ∧ wx = wr)
    case first =>
      clear q1
      by_cases hin : (i : Int) < n
      · have hin' : decide ((i : Int) < n) = true := decide_eq_true hin
        have hi6 : decide ((i : Int) < 50) = false := decide_eq_false (by omega)
        have hi7 : decide (i < 50) = false := decide_eq_false (by omega)
        clear hgo
        go_wp2_with fail
        go_meet
        case rel => exact ⟨rfl, rfl⟩
      · have hin' : decide ((i : Int) < n) = false := decide_eq_false hin
        clear hgo
        go_wp2_with fail
        go_meet
        case rel => exact ⟨rfl, rfl⟩
    case rest =>
    obtain ⟨rfl, rfl⟩ := hcut
    clear hgo
    go_step
    go_upto_region 12 with (go_at_call 6; refine q1.mono ?_; rintro e w5 ⟨rfl, b5⟩; clear q1)
    have hx5 := HBx.out.step b5
    have bcur : Below w5.heap.size w5 w5.drew := (Below.refl _ _).drew
    have HS : Hid (∀ W, Below w5.heap.size w5 W → W.cell? ⟨w.heap.size, 0, none⟩ = some (.slice ca p.code.length cc) ∧ W.cell? ⟨w.heap.size, 3, none⟩ = some (.slice wa p.wires.length wc')) := fun W hb => ⟨(hx5.step hb).c0, (hx5.step hb).c3⟩
    have S0 := HS.out _ bcur
    clear k0 k1 k2 k3
    go_cut [59, 4] from 44 to 58 (fun _ s4 wx => s4 = .bool true ∧ Below w5.heap.size w5 wx)
    case first =>
      go_region_held3 (fun W => W.cell? ⟨w.heap.size, 0, none⟩ = some (.slice ca p.code.length cc) ∧ W.cell? ⟨w.heap.size, 3, none⟩ = some (.slice wa p.wires.length wc'))
        (first | exact S0 | exact S1 | go_keep)
        (first
          | (go_at_call 12; refine (HCt.out _).mono ?_; rintro e w6 ⟨g, cap, rfl, b6⟩; replace bcur := bcur.trans (b6.mono bcur.size); have S1 := HS.out w6 bcur))
      all_goals (go_wp2_with fail; go_meet; exact ⟨by rw [HEQ.out], bcur⟩)
    case rest =>
    obtain ⟨rfl, hb6⟩ := hcut
    go_wp2
    go_ret
    exact ⟨rfl, (hx5.step hb6).below⟩
  obtain ⟨hin, hi5⟩ := hgo
  have hin' : decide ((i : Int) < n) = true := decide_eq_true hin
  have hi6 : (i : Int) < 50 := by omega
  have q1 := C.tick HG3.out hK HZ.out (kT_ok HZ.out i) (by rw [kT_time]; omega)
  unfold evA at q1
  clear hK
  go_wp2_with (go_at_call 8; refine q1.mono ?_; rintro e w6 ⟨rfl, F', hK', tk, hF⟩; clear q1)
  go_roundw
  case rel => exact ⟨i + 1, F', by omega, by go_num, hK'⟩
  case measure => simp [intOf]; omega
end Go.Proofs.YtfconbblnmbnpaiGreatDoor
