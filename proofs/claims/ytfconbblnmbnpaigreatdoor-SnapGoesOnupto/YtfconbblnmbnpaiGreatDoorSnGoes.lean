/-
  The law SnapGoesOn: the walk, under what packages kernel and snap do.
-/
import Derived.Test.YtfconbblnmbnpaiGreatDoorJa4
import Derived.Test.YtfconbblnmbnpaiGreatDoorJa17
import Derived.Test.YtfconbblnmbnpaiGreatDoorJa2
import Derived.Deep.CutRange
import Derived.Deep.RegionWith
import Derived.Deep.RegionHeld3
import Derived.BigQuiet
import Derived.RangeFuncNested
namespace Go.Proofs.YtfconbblnmbnpaiGreatDoor
open Go.RowKit

theorem toyS_text : snB (newK toyS) = [116, 105, 109, 101, 32, 48, 10, 114, 111, 111, 109, 32, 48, 32, 48, 32, 48, 32, 48, 32, 48, 32, 48, 32, 48, 32, 48, 10] := by decide +kernel
theorem snE_zero {p : PD} {t : List UInt8} (h : snE p t = 0) : plchk p = 0 ∧ (snP p t).2 = 0 := by
  unfold snE at h
  split at h
  · rename_i hp
    exact ⟨hp, h⟩
  · contradiction
theorem text_same (t : ByteArray) : (⟨t.data.toList.toArray⟩ : ByteArray) = t := by simp
set_option maxRecDepth 100000 in
set_option maxHeartbeats 16000000 in
theorem sgoes_of {G : World → Prop} (C : KerC G) (CT : KerTime C) (SS : SnpSave C) (SL : SnpLoad C) (SN : SnpNo C)
    (p : PD) (vc vs vw : Value) (n m : Int) (t : ByteArray) (w : World) (hG : G w) (hP : Pln w vc vs vw p) (ht : t.size ≤ 1099511627776) :
    Calls Tryz.prog 3 #[plV vc p.ticks vs vw, .int .i64 n, .int .i64 m, .string t] w fun e w' => e = .returned (.bool true) ∧ Below w.heap.size w w' := by
  obtain ⟨ca, cc, rfl⟩ := hP.code.form
  obtain ⟨sa, sc, rfl⟩ := hP.spans.form
  obtain ⟨wa, wc', rfl⟩ := hP.wires.form
  have hx0 := Bx.first w (.slice ca p.code.length cc) p.ticks (.slice sa p.spans.length sc) (.slice wa p.wires.length wc')
  have HG : Hid (∀ W, Below w.heap.size w W → G W) := fun W hb => C.all w W hG hb
  have HP : Hid (Pln w (.slice ca p.code.length cc) (.slice sa p.spans.length sc) (.slice wa p.wires.length wc') p) := hP
  unfold plV
  generalize hvc : Value.slice ca p.code.length cc = vc at *
  generalize hvs : Value.slice sa p.spans.length sc = vs at *
  generalize hvw : Value.slice wa p.wires.length wc' = vw at *
  clear hvc hvs hvw
  have hA : Below w.heap.size w ((((w.alloc (.cells #[vc, .int .i64 p.ticks, vs, vw] 26)).alloc (.cells #[.int .i64 10, .int .i64 0, .int .i64 0] 28)).alloc (.cells #[.slice (some ⟨w.heap.size + 1, 0, none⟩) 1 1] 29)).alloc (.cells #[.slice (some ⟨w.heap.size + 1 + 1, 0, none⟩) 1 1, .int .i64 1, .slice none 0 0, .slice none 0 0] 26)) := (((Below.refl _ _).alloc (Nat.le_refl _) _).alloc (by simp) _).alloc (by simp; omega) _ |>.alloc (by simp; omega) _
  have hxA : Bx w ((((w.alloc (.cells #[vc, .int .i64 p.ticks, vs, vw] 26)).alloc (.cells #[.int .i64 10, .int .i64 0, .int .i64 0] 28)).alloc (.cells #[.slice (some ⟨w.heap.size + 1, 0, none⟩) 1 1] 29)).alloc (.cells #[.slice (some ⟨w.heap.size + 1 + 1, 0, none⟩) 1 1, .int .i64 1, .slice none 0 0, .slice none 0 0] 26)) vc p.ticks vs vw := ((hx0.step ((Below.refl _ _).alloc (Nat.le_refl _) _)).step ((Below.refl _ _).alloc (Nat.le_refl _) _)).step ((Below.refl _ _).alloc (Nat.le_refl _) _)
  have hpl : Pln ((((w.alloc (.cells #[vc, .int .i64 p.ticks, vs, vw] 26)).alloc (.cells #[.int .i64 10, .int .i64 0, .int .i64 0] 28)).alloc (.cells #[.slice (some ⟨w.heap.size + 1, 0, none⟩) 1 1] 29)).alloc (.cells #[.slice (some ⟨w.heap.size + 1 + 1, 0, none⟩) 1 1, .int .i64 1, .slice none 0 0, .slice none 0 0] 26)) (.slice (some ⟨w.heap.size + 1 + 1, 0, none⟩) 1 1) (.slice none 0 0) (.slice none 0 0) toyS := (toyS_pln (w.alloc (.cells #[vc, .int .i64 p.ticks, vs, vw] 26)) (w.heap.size + 1) (by simp)).all ((Below.refl _ _).alloc (Nat.le_refl _) _)
  have hbox : ((((w.alloc (.cells #[vc, .int .i64 p.ticks, vs, vw] 26)).alloc (.cells #[.int .i64 10, .int .i64 0, .int .i64 0] 28)).alloc (.cells #[.slice (some ⟨w.heap.size + 1, 0, none⟩) 1 1] 29)).alloc (.cells #[.slice (some ⟨w.heap.size + 1 + 1, 0, none⟩) 1 1, .int .i64 1, .slice none 0 0, .slice none 0 0] 26)).heap[w.heap.size + 1 + 1 + 1]? = some (.cells #[.slice (some ⟨w.heap.size + 1 + 1, 0, none⟩) 1 1, .int .i64 1, .slice none 0 0, .slice none 0 0] 26 (0, 0)) := by
    have := World.alloc_heap_new (((w.alloc (.cells #[vc, .int .i64 p.ticks, vs, vw] 26)).alloc (.cells #[.int .i64 10, .int .i64 0, .int .i64 0] 28)).alloc (.cells #[.slice (some ⟨w.heap.size + 1, 0, none⟩) 1 1] 29)) (.cells #[.slice (some ⟨w.heap.size + 1 + 1, 0, none⟩) 1 1, .int .i64 1, .slice none 0 0, .slice none 0 0] 26)
    simpa only [World.size_alloc] using this
  generalize hvt : Value.slice (some ⟨w.heap.size + 1 + 1, 0, none⟩) 1 1 = vt at hA hxA hpl hbox
  generalize hWA : ((((w.alloc (.cells #[vc, .int .i64 p.ticks, vs, vw] 26)).alloc (.cells #[.int .i64 10, .int .i64 0, .int .i64 0] 28)).alloc (.cells #[.slice (some ⟨w.heap.size + 1, 0, none⟩) 1 1] 29)).alloc (.cells #[vt, .int .i64 1, .slice none 0 0, .slice none 0 0] 26)) = WA at hA hxA hpl hbox
  have hbc : ∀ W, Below WA.heap.size WA W → W.cell? ⟨w.heap.size + 1 + 1 + 1, 0, none⟩ = some vt ∧ W.cell? ⟨w.heap.size + 1 + 1 + 1, 1, none⟩ = some (.int .i64 1) ∧ W.cell? ⟨w.heap.size + 1 + 1 + 1, 2, none⟩ = some (.slice none 0 0) ∧ W.cell? ⟨w.heap.size + 1 + 1 + 1, 3, none⟩ = some (.slice none 0 0) := fun W hb => by
    have e : W.heap[w.heap.size + 1 + 1 + 1]? = _ := (hb.block _ (Array.getElem?_eq_some_iff.1 hbox).1).trans hbox
    simp [World.cell?, e]
  have HBC : Hid (∀ W, Below WA.heap.size WA W → W.cell? ⟨w.heap.size + 1 + 1 + 1, 0, none⟩ = some vt ∧ W.cell? ⟨w.heap.size + 1 + 1 + 1, 1, none⟩ = some (.int .i64 1) ∧ W.cell? ⟨w.heap.size + 1 + 1 + 1, 2, none⟩ = some (.slice none 0 0) ∧ W.cell? ⟨w.heap.size + 1 + 1 + 1, 3, none⟩ = some (.slice none 0 0)) := hbc
  have HN0 : Hid (Calls Tryz.prog 5 #[.agg #[vt, .int .i64 1, .slice none 0 0, .slice none 0 0]] WA fun e w' => ∃ kb F, e = .returned (.tuple #[.pointer (some ⟨kb, 0, none⟩), .nilIface]) ∧ C.K WA w' toyS vt (.slice none 0 0) (.slice none 0 0) (newK toyS) kb F) := C.new toyS vt (.slice none 0 0) (.slice none 0 0) WA (HG.out _ hA) hpl toyS_ok
  have HS0 : Hid (∀ W kb F, C.K WA W toyS vt (.slice none 0 0) (.slice none 0 0) (newK toyS) kb F → Calls Tryz.prog 6 #[.pointer (some ⟨kb, 0, none⟩), .agg #[vt, .int .i64 1, .slice none 0 0, .slice none 0 0]] W fun e w' => e = .returned (.tuple #[.string ⟨#[116, 105, 109, 101, 32, 48, 10, 114, 111, 111, 109, 32, 48, 32, 48, 32, 48, 32, 48, 32, 48, 32, 48, 32, 48, 32, 48, 10]⟩, .nilIface]) ∧ Below W.heap.size W w') := fun W kb F hK => by
    have hok : KOk toyS (newK toyS) := new_ok toyS_ok
    have := SS vt (.slice none 0 0) (.slice none 0 0) (HG.out _ hA) hK (hpl.all (C.since hK)) toyS_ok hok (small_on toyS_ok hok (by decide))
    rw [toyS_text] at this
    exact this
  have HLy : Hid (∀ W, Below w.heap.size w W → snE p t.data.toList = 0 → Calls Tryz.prog 7 #[.agg #[vc, .int .i64 p.ticks, vs, vw], .string t] W fun e w' => ∃ xb H, e = .returned (.tuple #[.pointer (some ⟨xb, 0, none⟩), .nilIface]) ∧ C.K W w' p vc vs vw (snP p t.data.toList).1 xb H) := fun W hb he => SL p vc vs vw t W (HG.out W hb) (HP.out.all hb) ht he
  have HLn : Hid (∀ W, Below w.heap.size w W → snE p t.data.toList ≠ 0 → Calls Tryz.prog 7 #[.agg #[vc, .int .i64 p.ticks, vs, vw], .string t] W fun e w' => ∃ x z, e = .returned (.tuple #[.pointer x, .iface 66 (.int .i64 z)]) ∧ Below W.heap.size W w') := fun W hb he => by
    refine (SN p vc vs vw t W (HG.out W hb) (HP.out.all hb) ht he).mono ?_
    rintro e w' ⟨x, rfl, hb'⟩
    rw [wErr_not he]
    exact ⟨x, _, rfl, hb'⟩
  have HSx : Hid (∀ W0 W xb H, Below w.heap.size w W0 → plchk p = 0 → (snP p t.data.toList).2 = 0 → C.K W0 W p vc vs vw (snP p t.data.toList).1 xb H → Calls Tryz.prog 6 #[.pointer (some ⟨xb, 0, none⟩), .agg #[vc, .int .i64 p.ticks, vs, vw]] W fun e w' => e = .returned (.tuple #[.string t, .nilIface]) ∧ Below W.heap.size W w') := fun W0 W xb H hb hp hz hK => by
    have hk := snap_kept hp hz
    have hbW := hb.trans ((C.since hK).mono hb.size)
    have := SS vc vs vw (HG.out _ hb) hK (HP.out.all hbW) hp hk.ok (hk.small hp)
    rw [sn_back hz, text_same] at this
    exact this
  have k0 := hbc WA (Below.refl _ _)
  obtain ⟨a0, a1, a2, a3⟩ := k0
  have HVT : Hid (Value.slice (some ⟨w.heap.size + 1 + 1, 0, none⟩) 1 1 = vt) := hvt
  have HWA : Hid (((((w.alloc (.cells #[vc, .int .i64 p.ticks, vs, vw] 26)).alloc (.cells #[.int .i64 10, .int .i64 0, .int .i64 0] 28)).alloc (.cells #[.slice (some ⟨w.heap.size + 1, 0, none⟩) 1 1] 29)).alloc (.cells #[vt, .int .i64 1, .slice none 0 0, .slice none 0 0] 26)) = WA) := hWA
  clear hP hG hpl hbox hbc ht hvt hWA
  go_enter Tryz.func3, Tryz.ntmps3
  go_upto_region 2 with fail
  rw [HVT.out, HWA.out]
  clear HVT HWA
  go_upto_region 6 with (first
    | (go_at_call 5; refine HN0.out.mono ?_; rintro e w1 ⟨kb0, F0, rfl, hK0⟩; obtain ⟨b0, b1, b2, b3⟩ := HBC.out w1 (C.since hK0); have q1 := HS0.out w1 kb0 F0 hK0; have hx1 := hxA.step (C.since hK0); clear a0 a1 a2 a3)
    | (go_at_call 6; refine q1.mono ?_; rintro e w2 ⟨rfl, bb2⟩; have hx2 := hx1.step bb2))
  clear q1 hK0 b0 b1 b2 b3 HS0 HN0 hx1 bb2 HBC hxA hx0
  have hss : ((⟨#[116, 105, 109, 101, 32, 48, 10, 114, 111, 111, 109, 32, 48, 32, 48, 32, 48, 32, 48, 32, 48, 32, 48, 32, 48, 32, 48, 10]⟩ : ByteArray) != ⟨#[116, 105, 109, 101, 32, 48, 10, 114, 111, 111, 109, 32, 48, 32, 48, 32, 48, 32, 48, 32, 48, 32, 48, 32, 48, 32, 48, 10]⟩) = false := by decide
  go_upto_region 8 with fail
  clear hss
  have k0 := hx2.c0
  have k1 := hx2.c1
  have k2 := hx2.c2
  have k3 := hx2.c3
  go_cut [14, 15] from 50 to 55 (fun s14 s15 wx => (snE p t.data.toList = 0 ∧ ∃ xb H, s14 = .pointer (some ⟨xb, 0, none⟩) ∧ s15 = .nilIface ∧ C.K w2 wx p vc vs vw (snP p t.data.toList).1 xb H) ∨ (∃ x z, s14 = .pointer x ∧ s15 = .iface 66 (.int .i64 z) ∧ Below w2.heap.size w2 wx))
  case first =>
    by_cases he : snE p t.data.toList = 0
    · have q1 := HLy.out w2 hx2.below he
      have HE0 : Hid (snE p t.data.toList = 0) := he
      clear he
      go_wp2_with (go_at_call 7; refine q1.mono ?_; rintro e w3 ⟨xb, H, rfl, hK⟩; clear q1)
      go_meet
      case rel => exact Or.inl ⟨HE0.out, xb, H, rfl, rfl, hK⟩
    · have q1 := HLn.out w2 hx2.below he
      clear he
      go_wp2_with (go_at_call 7; refine q1.mono ?_; rintro e w3 ⟨x, z, rfl, hb⟩; clear q1)
      go_meet
      case rel => exact Or.inr ⟨x, z, rfl, rfl, hb⟩
  case rest =>
  have hb3 : Below w2.heap.size w2 wc := by
    rcases hcut with ⟨_, _, _, _, _, hK⟩ | ⟨_, _, _, _, hb⟩
    · exact C.since hK
    · exact hb
  have hx3 := hx2.step hb3
  clear k0 k1 k2 k3
  have HB2 : Hid (Below w.heap.size w w2) := hx2.below
  have HCUT : Hid ((snE p t.data.toList = 0 ∧ ∃ xb H, u14 = .pointer (some ⟨xb, 0, none⟩) ∧ u15 = .nilIface ∧ C.K w2 wc p vc vs vw (snP p t.data.toList).1 xb H) ∨ (∃ x z, u14 = .pointer x ∧ u15 = .iface 66 (.int .i64 z) ∧ Below w2.heap.size w2 wc)) := hcut
  clear hcut hb3 HLn
  generalize wc = w3 at *
  go_step
  go_upto_region 9 with fail
  go_cut [57] from 56 to 56 (fun s57 wx => wx = w3 ∧ ((snE p t.data.toList = 0 ∧ s57 = .bool true ∧ ∃ xb H, u14 = .pointer (some ⟨xb, 0, none⟩) ∧ C.K w2 w3 p vc vs vw (snP p t.data.toList).1 xb H) ∨ s57 = .bool false))
  case first =>
    rcases HCUT.out with ⟨he, xb, H, h1, h2, hK⟩ | ⟨x, z, h1, h2, hb⟩
    · have HE0 : Hid (snE p t.data.toList = 0 ∧ u14 = .pointer (some ⟨xb, 0, none⟩) ∧ C.K w2 w3 p vc vs vw (snP p t.data.toList).1 xb H) := ⟨he, h1, hK⟩
      clear HCUT he h1 hK
      subst h2
      go_wp2_with fail
      go_meet
      case rel => exact ⟨rfl, Or.inl ⟨HE0.out.1, rfl, xb, H, HE0.out.2.1, HE0.out.2.2⟩⟩
    · clear HCUT h1 hb
      subst h2
      go_wp2_with fail
      go_meet
      case rel => exact ⟨rfl, Or.inr rfl⟩
  case rest =>
  obtain ⟨hwc, hcut⟩ := hcut
  rw [hwc]
  clear hwc wc HCUT
  go_step
  have k0 := hx3.c0
  have k1 := hx3.c1
  have k2 := hx3.c2
  have k3 := hx3.c3
  go_cut [16, 17] from 57 to 70 (fun _ _ wx => Below w3.heap.size w3 wx)
  case first =>
    rcases hcut with ⟨he, h1, xb, H, h2, hK⟩ | h1
    · have q1 := HSx.out w2 w3 xb H HB2.out (snE_zero he).1 (snE_zero he).2 hK
      clear he hK
      subst h1
      subst h2
      go_wp2_with (go_at_call 6; refine q1.mono ?_; rintro e w4 ⟨rfl, b4⟩; clear q1)
      go_meet
      case rel => exact b4
    · subst h1
      go_wp2_with fail
      go_meet
      case rel => exact Below.refl _ _
  case rest =>
  have hx4 := hx3.step hcut
  clear hcut k0 k1 k2 k3 HSx HLy HB2 hx3 hx2
  generalize wc = w4 at *
  have k0 := hx4.c0
  have k1 := hx4.c1
  have k2 := hx4.c2
  have k3 := hx4.c3
  go_step
  by_cases hp : plchk p = 0
  case neg =>
    have q1 : Calls Tryz.prog 5 #[.agg #[vc, .int .i64 p.ticks, vs, vw]] w4 fun e w' => ∃ x, e = .returned (.tuple #[.pointer x, .iface 66 (.int .i64 (plchk p))]) ∧ Below w4.heap.size w4 w' := by
      have := C.no p vc vs vw w4 (HG.out _ hx4.below) (HP.out.all hx4.below) hp
      rw [wErr_not hp] at this
      exact this
    generalize plchk p = z at q1 hp
    clear hp
    go_wp2_with (go_at_call 5; refine q1.mono ?_; rintro e w5 ⟨xk, rfl, b5⟩; clear q1)
    go_ret
    exact ⟨rfl, (hx4.step b5).below⟩
  have q1 : Calls Tryz.prog 5 #[.agg #[vc, .int .i64 p.ticks, vs, vw]] w4 fun e w' => ∃ kb F, e = .returned (.tuple #[.pointer (some ⟨kb, 0, none⟩), .nilIface]) ∧ C.K w4 w' p vc vs vw (newK p) kb F := C.new p vc vs vw w4 (HG.out _ hx4.below) (HP.out.all hx4.below) hp
  have HZ : Hid (plchk p = 0) := hp
  have HG4 : Hid (G w4) := HG.out w4 hx4.below
  have HXW : Hid (∀ W, Below w4.heap.size w4 W → Bx w W vc p.ticks vs vw) := fun W hb => hx4.step hb
  have hs4 := hx4.size
  clear hp
  go_upto_region 17 with (go_at_call 5; refine q1.mono ?_; rintro e w5 ⟨kb, F, rfl, hK⟩; clear q1)
  clear k0 k1 k2 k3 hx4
  go_loopw [19] (fun s19 wr => ∃ (i : Nat) (F : List Nat), i ≤ 100 ∧ s19 = .int .i64 i ∧ C.K w4 wr p vc vs vw (kT p i) kb F) (fun s _ => 100 - (intOf s).toNat)
  case atStart => exact ⟨0, F, Nat.zero_le _, rfl, hK⟩
  case round =>
  clear hK
  obtain ⟨i, F1, hi, rfl, hK⟩ := hrel
  by_cases hgo : (i : Int) < n ∧ i < 100
  case pos =>
    obtain ⟨hin, hi5⟩ := hgo
    have hin' : decide ((i : Int) < n) = true := decide_eq_true hin
    have hi6 : (i : Int) < 100 := by omega
    have q1 := C.tick HG4.out hK HZ.out (kT_ok HZ.out i) (by rw [kT_time]; omega)
    unfold evA at q1
    clear hK
    go_wp2_with (go_at_call 8; refine q1.mono ?_; rintro e w6 ⟨rfl, F', hK', tk, hF⟩; clear q1)
    go_roundw
    case rel => exact ⟨i + 1, F', by omega, by go_num, hK'⟩
    case measure => simp [intOf]; omega
  have hkp := kT_kept HZ.out (n := i) (by omega)
  have hrd := hkp.read HZ.out
  have hsm := hkp.small HZ.out
  have hx := HXW.out wr (C.since hK)
  have q1 := SS vc vs vw HG4.out hK (HP.out.all hx.below) HZ.out hkp.ok hsm
  have HLd : Hid (∀ W, Below wr.heap.size wr W → Calls Tryz.prog 7 #[.agg #[vc, .int .i64 p.ticks, vs, vw], .string ⟨(snB (kT p i)).toArray⟩] W fun e w' => ∃ mb H, e = .returned (.tuple #[.pointer (some ⟨mb, 0, none⟩), .nilIface]) ∧ KK C w4 w' p vc vs vw (kT p i) (kT p i) kb mb F1 H) := fun W hb => by
    have hl := snB_len hsm
    have hbW := (hx.step hb).below
    have hz : snE p (snB (kT p i)) = 0 := by rw [snE_ok HZ.out, hrd]
    refine (SL p vc vs vw ⟨(snB (kT p i)).toArray⟩ W (HG.out W hbW) (HP.out.all hbW) (by show (snB (kT p i)).toArray.size ≤ _; simp; omega) (by simpa using hz)).mono ?_
    rintro e w' ⟨mb, H, rfl, hM⟩
    refine ⟨mb, H, rfl, kk_pair hK hb ?_ hkp.ok hkp.ok⟩
    simp only at hM
    rw [hrd] at hM
    exact hM
  unfold plV at q1
  have HTM : Hid (∀ k m kb mb F H W, KK C w4 W p vc vs vw k m kb mb F H → (Calls Tryz.prog 9 #[.pointer (some ⟨kb, 0, none⟩)] W fun e w' => e = .returned (.int .i64 k.time) ∧ Below W.heap.size W w') ∧ Calls Tryz.prog 9 #[.pointer (some ⟨mb, 0, none⟩)] W fun e w' => e = .returned (.int .i64 m.time) ∧ Below W.heap.size W w') := fun k m kb mb F H W h => by
    refine ⟨(CT h.K).mono ?_, (CT h.M).mono ?_⟩
    · rintro e w' ⟨rfl, nq, rfl⟩
      exact ⟨rfl, below_dN (Below.refl _ _) nq⟩
    · rintro e w' ⟨rfl, nq, rfl⟩
      exact ⟨rfl, below_dN (Below.refl _ _) nq⟩
  have htm : (kT p i).time ≤ 100 := by rw [kT_time]; omega
  have k0 := hx.c0
  have k1 := hx.c1
  have k2 := hx.c2
  have k3 := hx.c3
  generalize snB (kT p i) = sb at q1 HLd
  generalize kT p i = kk at *
  clear hK hrd hsm hkp
  go_upto_region 17 with fail
  go_cut [84] from 78 to 83 (fun s84 wx => s84 = .bool false ∧ wx = wr)
  case first =>
    clear q1
    by_cases hin : (i : Int) < n
    · have hin' : decide ((i : Int) < n) = true := decide_eq_true hin
      have hi6 : decide ((i : Int) < 100) = false := decide_eq_false (by omega)
      have hi7 : decide (i < 100) = false := decide_eq_false (by omega)
      clear hgo
      go_wp2_with fail
      go_meet
      case rel => exact ⟨rfl, rfl⟩
    · have hin' : decide ((i : Int) < n) = false := decide_eq_false hin
      clear hgo
      go_wp2_with fail
      go_meet
      case rel => exact ⟨rfl, rfl⟩
  case rest =>
  obtain ⟨rfl, hwc⟩ := hcut
  rw [hwc]
  clear hgo hwc wc
  go_step
  go_upto_region 22 with (first
    | (go_at_call 6; refine q1.mono ?_; rintro e w6 ⟨rfl, b6⟩; clear q1 k0 k1 k2 k3; have hx6 := hx.step b6; have k0 := hx6.c0; have k1 := hx6.c1; have k2 := hx6.c2; have k3 := hx6.c3; have q2 := HLd.out w6 b6)
    | (go_at_call 7; refine q2.mono ?_; rintro e w7 ⟨mb, H, rfl, hKK⟩; clear q2 k0 k1 k2 k3))
  obtain ⟨_, qm⟩ := HTM.out _ _ _ _ _ _ _ hKK
  have hne : (kk.time != kk.time) = false := by simp
  go_upto_region 25 with (first
    | (go_at_call 9; refine qm.mono ?_; rintro e w8 ⟨rfl, b8⟩; clear qm; replace hKK := hKK.all b8; obtain ⟨qk, _⟩ := HTM.out _ _ _ _ _ _ _ hKK)
    | (go_at_call 9; refine qk.mono ?_; rintro e w9 ⟨rfl, b9⟩; clear qk; replace hKK := hKK.all b9))
  have hok : KOk p kk := hKK.ok
  clear hne HTM HLd hx6 hx b6 b8 b9
  go_loopw [24] (fun s24 wr => ∃ (j : Nat) (k : KD) (F H : List Nat), j ≤ 100 ∧ s24 = .int .i64 j ∧ k.time ≤ 100 + j ∧ KK C w4 wr p vc vs vw k k kb mb F H) (fun s _ => 100 - (intOf s).toNat)
  case atStart => exact ⟨0, kk, _, _, Nat.zero_le _, rfl, by omega, hKK⟩
  case round =>
  clear hKK hok htm
  obtain ⟨j, k, F2, H2, hj, rfl, htm, hKK⟩ := hrel
  by_cases hgo : (j : Int) < m ∧ j < 100
  case pos =>
    obtain ⟨hin, hi5⟩ := hgo
    have hin' : decide ((j : Int) < m) = true := decide_eq_true hin
    have hi6 : (j : Int) < 100 := by omega
    have q1 := kk_tick HG4.out HZ.out (by omega) (by omega) hKK
    have htk : (tickK p p.spans k).1.time = k.time + 1 := tick_time _ _ _
    unfold evA at q1
    generalize (tickK p p.spans k).1 = k' at q1 htk
    generalize (tickK p p.spans k).2.1 = t1 at q1
    generalize (tickK p p.spans k).2.2.1 = t2 at q1
    generalize (tickK p p.spans k).2.2.2.1 = t3 at q1
    generalize (tickK p p.spans k).2.2.2.2 = t4 at q1
    have HTK : Hid (k'.time = k.time + 1) := htk
    have heq := neq_ev
    clear hKK htk
    go_wp2_with (first
      | (go_at_call 8; refine q1.mono ?_; rintro e w10 ⟨rfl, _, q2⟩; clear q1)
      | (go_at_call 8; refine (q2 _ (Below.refl _ _)).mono ?_; rintro e w11 ⟨rfl, F3, H3, hW, _⟩; clear q2))
    go_roundw
    case rel => exact ⟨j + 1, k', F3, H3, by omega, by go_num, by have := HTK.out; push_cast; omega, hW.kk⟩
    case measure => simp [intOf]; omega
  have hsm := small_on HZ.out hKK.ok (by omega)
  have hx := HXW.out wr (C.since hKK.K)
  have q1 := SS vc vs vw HG4.out hKK.K (HP.out.all hx.below) HZ.out hKK.ok hsm
  have HS2 : Hid (∀ W, Below wr.heap.size wr W → Calls Tryz.prog 6 #[.pointer (some ⟨mb, 0, none⟩), .agg #[vc, .int .i64 p.ticks, vs, vw]] W fun e w' => e = .returned (.tuple #[.string ⟨(snB k).toArray⟩, .nilIface]) ∧ Below W.heap.size W w') := fun W hb => SS vc vs vw HG4.out (C.frame hKK.M (KTouch.of (M := []) hb) (by simp)) (HP.out.all (hx.step hb).below) HZ.out hKK.ok hsm
  unfold plV at q1
  have k0 := hx.c0
  have k1 := hx.c1
  have k2 := hx.c2
  have k3 := hx.c3
  generalize snB k = sb at q1 HS2
  clear hKK hsm
  go_upto_region 25 with fail
  go_cut [120] from 114 to 119 (fun s120 wx => s120 = .bool false ∧ wx = wr)
  case first =>
    clear q1
    by_cases hin : (j : Int) < m
    · have hin' : decide ((j : Int) < m) = true := decide_eq_true hin
      have hi6 : decide ((j : Int) < 100) = false := decide_eq_false (by omega)
      have hi7 : decide (j < 100) = false := decide_eq_false (by omega)
      clear hgo
      go_wp2_with fail
      go_meet
      case rel => exact ⟨rfl, rfl⟩
    · have hin' : decide ((j : Int) < m) = false := decide_eq_false hin
      clear hgo
      go_wp2_with fail
      go_meet
      case rel => exact ⟨rfl, rfl⟩
  case rest =>
  obtain ⟨rfl, hwc⟩ := hcut
  rw [hwc]
  clear hgo hwc wc
  go_step
  go_upto_region 31 with (first
    | (go_at_call 6; refine q1.mono ?_; rintro e w12 ⟨rfl, b12⟩; clear q1 k0 k1 k2 k3; have hx12 := hx.step b12; have k0 := hx12.c0; have k1 := hx12.c1; have k2 := hx12.c2; have k3 := hx12.c3; have q2 := HS2.out w12 b12)
    | (go_at_call 6; refine q2.mono ?_; rintro e w13 ⟨rfl, b13⟩; clear q2 k0 k1 k2 k3))
  have hx13 := hx12.step b13
  go_wp2
  go_ret
  exact ⟨by simp, hx13.below⟩
end Go.Proofs.YtfconbblnmbnpaiGreatDoor
