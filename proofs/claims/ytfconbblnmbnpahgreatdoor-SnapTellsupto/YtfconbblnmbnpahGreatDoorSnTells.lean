/-
  The law SnapTells: the walk, under what packages kernel and snap do.
-/
import Derived.Test.YtfconbblnmbnpahGreatDoorJa4
import Derived.Test.YtfconbblnmbnpahGreatDoorJa16
import Derived.Test.YtfconbblnmbnpahGreatDoorRSave
import Derived.Test.YtfconbblnmbnpahGreatDoorRLoad
import Derived.Test.YtfconbblnmbnpahGreatDoorJa1
import Derived.Deep.CutRange
import Derived.Deep.RegionWith
import Derived.Deep.RegionHeld3
import Derived.BigQuiet
import Derived.RangeFuncNested
namespace Go.Proofs.YtfconbblnmbnpahGreatDoor
open Go.RowKit

/-- Both are there: the document's was made first. -/
theorem two_load {G : World → Prop} {C : KerC G} {w0 W1 W2 w3 : World} {p : PD} {vc vs vw : Value} {k : KD} {kb : Nat} {F : List Nat} {a : KW} (hP : Pln w0 vc vs vw p) (hok : KOk p k) (hR : RK W1 w0.heap.size p vc vs vw k a) (hb1 : Below w0.heap.size w0 W1) (hb2 : Below W1.heap.size W1 W2) (hK : C.K W2 w3 p vc vs vw k kb F) : Two C w0 w3 p vc vs vw k kb F a := by
  have hb3 := C.since hK
  refine ⟨C.lower (hb1.trans (hb2.mono hb1.size)) hK, hR.all (hb2.trans (hb3.mono hb2.size)), fun g hg hm => ?_, hok, hP⟩
  have h1 := (C.ge hK g hg).1
  have h2 := hR.flt g hm
  have h3 := hb2.size
  omega
set_option maxRecDepth 100000 in
set_option maxHeartbeats 16000000 in
theorem stells_of {G : World → Prop} (C : KerC G) (SS : SnpSave C) (SL : SnpLoad C) (SN : SnpNo C) (hE : ∀ (e : Int) (W : World), G W → Calls Tryz.prog 11 #[wErr e, .int .i64 e] W fun r w' => r = .returned (.bool true) ∧ Below W.heap.size W w')
    (hR : ∀ (p : PD) (vc vs vw : Value) (W : World), Pln W vc vs vw p → Calls Tryz.prog 7 #[plV vc p.ticks vs vw] W fun e w' => e = .returned (.int .i64 (plchk p)) ∧ Below W.heap.size W w')
    (p : PD) (vc vs vw : Value) (n : Int) (t : ByteArray) (w : World) (hG : G w) (hP : Pln w vc vs vw p) (ht : t.size ≤ 1099511627776) :
    Calls Tryz.prog 6 #[plV vc p.ticks vs vw, .int .i64 n, .string t] w fun e w' => e = .returned (.bool true) ∧ Below w.heap.size w w' := by
  have hx0 := Bx.first w vc p.ticks vs vw
  have HG : Hid (∀ W, Below w.heap.size w W → G W) := fun W hb => C.all w W hG hb
  have HP : Hid (Pln w vc vs vw p) := hP
  have HE : Hid (∀ (e : Int) (W : World), Below w.heap.size w W → Calls Tryz.prog 11 #[wErr e, .int .i64 e] W fun r w' => r = .returned (.bool true) ∧ Below W.heap.size W w') := fun e W hb => hE e W (HG.out W hb)
  have q1 := hR p vc vs vw _ (hP.all hx0.below)
  have HLn : Hid (∀ W, Below w.heap.size w W → snE p t.data.toList ≠ 0 → Calls Tryz.prog 30 #[.agg #[vc, .int .i64 p.ticks, vs, vw], .string t] W fun e w' => ∃ x, e = .returned (.tuple #[.pointer x, .iface 91 (.int .i64 (snE p t.data.toList))]) ∧ Below W.heap.size W w') := fun W hb he => by
    have := SN p vc vs vw t W (HG.out W hb) (HP.out.all hb) ht he
    rw [wErr_not he] at this
    exact this
  have k0 := hx0.c0
  have k1 := hx0.c1
  have k2 := hx0.c2
  have k3 := hx0.c3
  unfold plV at q1 ⊢
  clear hP hG hE hR
  obtain ⟨ca, cc, hvc⟩ := HP.out.code.form
  obtain ⟨sa, sc, hvs⟩ := HP.out.spans.form
  obtain ⟨wa, wc', hvw⟩ := HP.out.wires.form
  clear hvc hvs hvw
  by_cases hp : plchk p = 0
  case neg =>
    have hsn : snE p t.data.toList = plchk p := snE_no hp
    have HN : Hid (∀ W, Below w.heap.size w W → Calls Tryz.prog 25 #[.agg #[vc, .int .i64 p.ticks, vs, vw]] W fun e w' => ∃ x, e = .returned (.tuple #[.pointer x, .iface 91 (.int .i64 (plchk p))]) ∧ Below W.heap.size W w') := fun W hb => by
      have := C.no p vc vs vw W (HG.out W hb) (HP.out.all hb) hp
      rw [wErr_not hp] at this
      exact this
    have HE2 : Hid (∀ W, Below w.heap.size w W → Calls Tryz.prog 11 #[.iface 91 (.int .i64 (plchk p)), .int .i64 (plchk p)] W fun r w' => r = .returned (.bool true) ∧ Below W.heap.size W w') := fun W hb => by
      have := HE.out (plchk p) W hb
      rw [wErr_not hp] at this
      exact this
    have HL2 : Hid (∀ W, Below w.heap.size w W → Calls Tryz.prog 30 #[.agg #[vc, .int .i64 p.ticks, vs, vw], .string t] W fun e w' => ∃ x, e = .returned (.tuple #[.pointer x, .iface 91 (.int .i64 (plchk p))]) ∧ Below W.heap.size W w') := fun W hb => by
      have := HLn.out W hb (by rw [hsn]; exact hp)
      rw [hsn] at this
      exact this
    have hpb : (plchk p == 0) = false := by simpa using hp
    have hpn : (plchk p != 0) = true := by simpa using hp
    clear HLn HE hsn
    generalize plchk p = z at q1 HN HE2 HL2 hp hpb hpn
    go_enter Tryz.func6, Tryz.ntmps6
    go_wp2_with (first
      | (go_at_call 7; refine q1.mono ?_; rintro e w1 ⟨rfl, b1⟩; clear q1 k0 k1 k2 k3; have hx1 := hx0.step b1; have k0 := hx1.c0; have k1 := hx1.c1; have k2 := hx1.c2; have k3 := hx1.c3; have q2 := HN.out w1 hx1.below)
      | (go_at_call 25; refine q2.mono ?_; rintro e w2 ⟨xp, rfl, b2⟩; clear q2 k0 k1 k2 k3; have hx2 := hx1.step b2; have q3 := HE2.out w2 hx2.below)
      | (go_at_call 11; refine q3.mono ?_; rintro e w3 ⟨rfl, b3⟩; clear q3; have hx3 := hx2.step b3; have k0 := hx3.c0; have k1 := hx3.c1; have k2 := hx3.c2; have k3 := hx3.c3; have q4 := HL2.out w3 hx3.below)
      | (go_at_call 30; refine q4.mono ?_; rintro e w4 ⟨xl, rfl, b4⟩; clear q4; have hx4 := hx3.step b4; have q5 := HE2.out w4 hx4.below)
      | (go_at_call 11; refine q5.mono ?_; rintro e w5 ⟨rfl, b5⟩; clear q5))
    go_ret
    exact ⟨rfl, (hx4.step b5).below⟩
  have HN : Hid (∀ W, Below w.heap.size w W → Calls Tryz.prog 25 #[.agg #[vc, .int .i64 p.ticks, vs, vw]] W fun e w' => ∃ kb F, e = .returned (.tuple #[.pointer (some ⟨kb, 0, none⟩), .nilIface]) ∧ C.K W w' p vc vs vw (newK p) kb F) := fun W hb => C.new p vc vs vw W (HG.out W hb) (HP.out.all hb) hp
  have HE2 : Hid (∀ W, Below w.heap.size w W → Calls Tryz.prog 11 #[.nilIface, .int .i64 0] W fun r w' => r = .returned (.bool true) ∧ Below W.heap.size W w') := fun W hb => HE.out 0 W hb
  have HRk : Hid (∀ W, Below w.heap.size w W → Calls Tryz.prog 8 #[.agg #[vc, .int .i64 p.ticks, vs, vw]] W fun e w' => ∃ a : KW, e = .returned (.pointer (some ⟨a.kb, 0, none⟩)) ∧ W.heap.size ≤ a.lr ∧ RK w' W.heap.size p vc vs vw (newK p) a ∧ Below W.heap.size W w') := fun W hb => newkernel_any p vc vs vw W hp (HP.out.all hb)
  have HZ : Hid (plchk p = 0) := hp
  have HSN : Hid (snE p t.data.toList = (snP p t.data.toList).2) := snE_ok hp
  rw [hp] at q1
  clear hp
  go_enter Tryz.func6, Tryz.ntmps6
  go_upto_region 9 with (first
    | (go_at_call 7; refine q1.mono ?_; rintro e w1 ⟨rfl, b1⟩; clear q1 k0 k1 k2 k3; have hx1 := hx0.step b1; have k0 := hx1.c0; have k1 := hx1.c1; have k2 := hx1.c2; have k3 := hx1.c3; have q2 := HN.out w1 hx1.below)
    | (go_at_call 25; refine q2.mono ?_; rintro e w2 ⟨kb, F, rfl, hK⟩; clear q2 k0 k1 k2 k3; have hx2 := hx1.step (C.since hK); have q3 := HE2.out w2 hx2.below)
    | (go_at_call 11; refine q3.mono ?_; rintro e w3 ⟨rfl, b3⟩; clear q3; have hx3 := hx2.step b3; have k0 := hx3.c0; have k1 := hx3.c1; have k2 := hx3.c2; have k3 := hx3.c3; have q4 := HRk.out w3 hx3.below)
    | (go_at_call 8; refine q4.mono ?_; rintro e w4 ⟨a, rfl, hlr, hRk, b4⟩; clear q4 k0 k1 k2 k3; have hx4 := hx3.step b4))
  have hTw := two_new HZ.out (HP.out.all hx1.below) hK b3 hRk hlr b4
  have HG1 : Hid (G w1) := HG.out w1 hx1.below
  have HXW : Hid (∀ W, Below w1.heap.size w1 W → Bx w W vc p.ticks vs vw) := fun W hb => hx1.step hb
  have hs1 := hx1.size
  clear hK hRk hlr b1 b3 b4 hx0 hx1 hx2 hx3 HN HRk hx4
  go_loopw [12] (fun s12 wr => ∃ (i : Nat) (k : KD) (F : List Nat) (a' : KW), i ≤ 100 ∧ s12 = .int .i64 i ∧ k.time ≤ i ∧ a'.kb = a.kb ∧ Two C w1 wr p vc vs vw k kb F a') (fun s _ => 100 - (intOf s).toNat)
  case atStart => exact ⟨0, _, F, a, Nat.zero_le _, rfl, (by show (0 : Int) ≤ ((0 : Nat) : Int); omega), rfl, hTw⟩
  case round =>
  clear hTw
  obtain ⟨i, k, F1, a1, hi, rfl, htm, hak, hTw⟩ := hrel
  by_cases hgo : (i : Int) < n ∧ i < 100
  case pos =>
    obtain ⟨hin, hi5⟩ := hgo
    have hin' : decide ((i : Int) < n) = true := decide_eq_true hin
    have hi6 : (i : Int) < 100 := by omega
    have q1 := two_tick HG1.out HZ.out (by omega) hTw
    have htk : (tickK p p.spans k).1.time = k.time + 1 := tick_time _ _ _
    rw [hak] at q1
    unfold evA at q1
    generalize (tickK p p.spans k).1 = k' at q1 htk
    generalize (tickK p p.spans k).2.1 = t1 at q1
    generalize (tickK p p.spans k).2.2.1 = t2 at q1
    generalize (tickK p p.spans k).2.2.2.1 = t3 at q1
    generalize (tickK p p.spans k).2.2.2.2 = t4 at q1
    have HTK : Hid (k'.time = k.time + 1) := htk
    have HAK : Hid (a1.kb = a.kb) := hak
    clear hTw htk hak
    go_wp2_with (first
      | (go_at_call 26; refine q1.mono ?_; rintro e w10 ⟨rfl, q2⟩; clear q1)
      | (go_at_call 9; refine q2.mono ?_; rintro e w11 ⟨rfl, F3, a3, hW⟩; clear q2))
    go_roundw
    case rel => exact ⟨i + 1, k', F3, a3, by omega, by go_num, by have := HTK.out; push_cast; omega, hW.kb.trans HAK.out, hW.two⟩
    case measure => simp [intOf]; omega
  have hsm := small_on HZ.out hTw.ok (by omega)
  have hx := HXW.out wr (C.since hTw.K)
  have q1 := SS vc vs vw HG1.out hTw.K (HP.out.all hx.below) HZ.out hTw.ok hsm
  have HS2 : Hid (∀ W, Below wr.heap.size wr W → Calls Tryz.prog 28 #[.pointer (some ⟨a.kb, 0, none⟩)] W fun e w' => e = .returned (.string ⟨(snB k).toArray⟩) ∧ Below W.heap.size W w') := fun W hb => by
    have := rsave_any p vc vs vw k a1 _ W (hTw.R.all hb) hsm
    rw [hak] at this
    exact this
  unfold plV at q1
  have k0 := hx.c0
  have k1 := hx.c1
  have k2 := hx.c2
  have k3 := hx.c3
  generalize snB k = sb at q1 HS2
  clear hTw hsm hak
  go_upto_region 9 with fail
  go_cut [42] from 36 to 41 (fun s42 wx => s42 = .bool false ∧ wx = wr)
  case first =>
    clear q1
    by_cases hin : (i : Int) < n
    · have hin' : decide ((i : Int) < n) = true := decide_eq_true hin
      have hi6 : decide ((i : Int) < 100) = false := decide_eq_false (by omega)
      have hi7 : decide (i < 100) = false := decide_eq_false (by omega)
      clear hgo
      go_wp2_with fail
      go_meet
      case rel => exact ⟨rfl, rfl⟩
    · have hin' : decide ((i : Int) < n) = false := decide_eq_false hin
      clear hgo
      go_wp2_with fail
      go_meet
      case rel => exact ⟨rfl, rfl⟩
  case rest =>
  obtain ⟨rfl, hwc⟩ := hcut
  rw [hwc]
  clear hgo hwc wc
  go_step
  go_upto_region 19 with (first
    | (go_at_call 27; refine q1.mono ?_; rintro e w6 ⟨rfl, b6⟩; clear q1 k0 k1 k2 k3; have hx6 := hx.step b6; have q2 := HS2.out w6 b6)
    | (go_at_call 28; refine q2.mono ?_; rintro e w7 ⟨rfl, b7⟩; clear q2; have hx7 := hx6.step b7))
  have k0 := hx7.c0
  have k1 := hx7.c1
  have k2 := hx7.c2
  have k3 := hx7.c3
  have hqL := rload_any p vc vs vw t w7 HZ.out (HP.out.all hx7.below) ht
  unfold plV at hqL
  clear hx6 hx b6 b7 HS2 htm
  by_cases he : (snP p t.data.toList).2 = 0
  case neg =>
    have q3 : Calls Tryz.prog 29 #[.agg #[vc, .int .i64 p.ticks, vs, vw], .string t] w7 fun e w' => ∃ x, e = .returned (.tuple #[.pointer x, .int .i64 (snP p t.data.toList).2]) ∧ Below w7.heap.size w7 w' := by
      refine hqL.mono ?_
      rintro e w' ⟨hb, ⟨_, x, rfl⟩ | ⟨h0, _⟩⟩
      · exact ⟨x, rfl, hb⟩
      · exact absurd h0 he
    have HL2 : Hid (∀ W, Below w.heap.size w W → Calls Tryz.prog 30 #[.agg #[vc, .int .i64 p.ticks, vs, vw], .string t] W fun e w' => ∃ x, e = .returned (.tuple #[.pointer x, .iface 91 (.int .i64 (snP p t.data.toList).2)]) ∧ Below W.heap.size W w') := fun W hb => by
      have := HLn.out W hb (by rw [HSN.out]; exact he)
      rw [HSN.out] at this
      exact this
    have HE3 : Hid (∀ W, Below w.heap.size w W → Calls Tryz.prog 11 #[.iface 91 (.int .i64 (snP p t.data.toList).2), .int .i64 (snP p t.data.toList).2] W fun r w' => r = .returned (.bool true) ∧ Below W.heap.size W w') := fun W hb => by
      have := HE.out (snP p t.data.toList).2 W hb
      rw [wErr_not he] at this
      exact this
    have hpn : ((snP p t.data.toList).2 != 0) = true := by simpa using he
    have hpb : ((snP p t.data.toList).2 == 0) = false := by simpa using he
    clear hqL HSN HLn HE
    generalize (snP p t.data.toList).2 = z at q3 HL2 HE3 he hpn hpb
    go_wp2_with (first
      | (go_at_call 29; refine q3.mono ?_; rintro e w8 ⟨xr, rfl, b8⟩; clear q3 k0 k1 k2 k3; have hx8 := hx7.step b8; have k0 := hx8.c0; have k1 := hx8.c1; have k2 := hx8.c2; have k3 := hx8.c3; have q4 := HL2.out w8 hx8.below)
      | (go_at_call 30; refine q4.mono ?_; rintro e w9 ⟨xl, rfl, b9⟩; clear q4; have hx9 := hx8.step b9; have q5 := HE3.out w9 hx9.below)
      | (go_at_call 11; refine q5.mono ?_; rintro e w10 ⟨rfl, b10⟩; clear q5))
    go_ret
    exact ⟨rfl, (hx9.step b10).below⟩
  have hkp := snap_kept HZ.out he
  have q3 : Calls Tryz.prog 29 #[.agg #[vc, .int .i64 p.ticks, vs, vw], .string t] w7 fun e w' => ∃ a : KW, e = .returned (.tuple #[.pointer (some ⟨a.kb, 0, none⟩), .int .i64 0]) ∧ RK w' w7.heap.size p vc vs vw (snP p t.data.toList).1 a ∧ Below w7.heap.size w7 w' := by
    refine hqL.mono ?_
    rintro e w' ⟨hb, ⟨hn, _⟩ | ⟨_, a, rfl, _, hRk⟩⟩
    · exact absurd he hn
    · exact ⟨a, rfl, hRk, hb⟩
  have HLy : Hid (∀ W, Below w.heap.size w W → Calls Tryz.prog 30 #[.agg #[vc, .int .i64 p.ticks, vs, vw], .string t] W fun e w' => ∃ xb H, e = .returned (.tuple #[.pointer (some ⟨xb, 0, none⟩), .nilIface]) ∧ C.K W w' p vc vs vw (snP p t.data.toList).1 xb H) := fun W hb => SL p vc vs vw t W (HG.out W hb) (HP.out.all hb) ht (HSN.out.trans he)
  have HG7 : Hid (G w7) := HG.out w7 hx7.below
  have HX7 : Hid (∀ W, Below w7.heap.size w7 W → Bx w W vc p.ticks vs vw) := fun W hb => hx7.step hb
  have HP7 : Hid (Pln w7 vc vs vw p) := HP.out.all hx7.below
  have htm := hkp.tm
  have HOK : Hid (KOk p (snP p t.data.toList).1) := hkp.ok
  clear hqL HSN HLn HE hkp he
  generalize (snP p t.data.toList).1 = kk at q3 HLy htm HOK
  go_upto_region 25 with (first
    | (go_at_call 29; refine q3.mono ?_; rintro e w8 ⟨a2, rfl, hR8, b8⟩; clear q3 k0 k1 k2 k3; have hx8 := hx7.step b8; have k0 := hx8.c0; have k1 := hx8.c1; have k2 := hx8.c2; have k3 := hx8.c3; have q4 := HLy.out w8 hx8.below)
    | (go_at_call 30; refine q4.mono ?_; rintro e w9 ⟨xb, H, rfl, hK9⟩; clear q4 k0 k1 k2 k3; have hx9 := hx8.step (C.since hK9); have q5 := HE2.out w9 hx9.below)
    | (go_at_call 11; refine q5.mono ?_; rintro e w10 ⟨rfl, b10⟩; clear q5))
  have hT8 := two_load HP7.out HOK.out hR8 b8 (Below.refl _ _) hK9
  have hT10 := hT8.all b10
  clear hT8 hR8 hK9 b8 b10 hx8 hx9 hx7 HOK HP7 HXW HG1
  go_loopw [18] (fun s18 wr => ∃ (j : Nat) (k : KD) (F : List Nat) (a' : KW), j ≤ 40 ∧ s18 = .int .i64 j ∧ k.time ≤ 10000000 + j ∧ a'.kb = a2.kb ∧ Two C w7 wr p vc vs vw k xb F a') (fun s _ => 40 - (intOf s).toNat)
  case atStart => exact ⟨0, kk, H, a2, Nat.zero_le _, rfl, by omega, rfl, hT10⟩
  case round =>
  clear hT10 htm
  obtain ⟨j, k', F2, a3, hj, rfl, htm, hak, hTw⟩ := hrel
  by_cases hj4 : j < 40
  case pos =>
    have hj6 : (j : Int) < 40 := by omega
    have q1 := two_tick HG7.out HZ.out (by omega) hTw
    have htk : (tickK p p.spans k').1.time = k'.time + 1 := tick_time _ _ _
    rw [hak] at q1
    unfold evA at q1
    generalize (tickK p p.spans k').1 = k2' at q1 htk
    generalize (tickK p p.spans k').2.1 = t1 at q1
    generalize (tickK p p.spans k').2.2.1 = t2 at q1
    generalize (tickK p p.spans k').2.2.2.1 = t3 at q1
    generalize (tickK p p.spans k').2.2.2.2 = t4 at q1
    have HTK : Hid (k2'.time = k'.time + 1) := htk
    have HAK : Hid (a3.kb = a2.kb) := hak
    have heq := neq_ev
    clear hTw htk hak
    go_wp2_with (first
      | (go_at_call 26; refine q1.mono ?_; rintro e w11 ⟨rfl, q2⟩; clear q1)
      | (go_at_call 9; refine q2.mono ?_; rintro e w12 ⟨rfl, F3, a4, hW⟩; clear q2))
    go_roundw
    case rel => exact ⟨j + 1, k2', F3, a4, by omega, by go_num, by have := HTK.out; push_cast; omega, hW.kb.trans HAK.out, hW.two⟩
    case measure => simp [intOf]; omega
  obtain rfl : j = 40 := by omega
  have hsm := small_on HZ.out hTw.ok (by omega)
  have hx := HX7.out wr (C.since hTw.K)
  have q1 := SS vc vs vw HG7.out hTw.K (HP.out.all hx.below) HZ.out hTw.ok hsm
  have HS2 : Hid (∀ W, Below wr.heap.size wr W → Calls Tryz.prog 28 #[.pointer (some ⟨a2.kb, 0, none⟩)] W fun e w' => e = .returned (.string ⟨(snB k').toArray⟩) ∧ Below W.heap.size W w') := fun W hb => by
    have := rsave_any p vc vs vw k' a3 _ W (hTw.R.all hb) hsm
    rw [hak] at this
    exact this
  unfold plV at q1
  have k0 := hx.c0
  have k1 := hx.c1
  have k2 := hx.c2
  have k3 := hx.c3
  generalize snB k' = sb at q1 HS2
  clear hTw hsm hak hj4
  rw [show ((40 : Nat) : Int) = 40 from rfl]
  go_wp2_with (first
    | (go_at_call 27; refine q1.mono ?_; rintro e w11 ⟨rfl, b11⟩; clear q1 k0 k1 k2 k3; have hx11 := hx.step b11; have q2 := HS2.out w11 b11)
    | (go_at_call 28; refine q2.mono ?_; rintro e w12 ⟨rfl, b12⟩; clear q2; have hx12 := hx11.step b12))
  go_ret
  exact ⟨by simp, hx12.below⟩
end Go.Proofs.YtfconbblnmbnpahGreatDoor
