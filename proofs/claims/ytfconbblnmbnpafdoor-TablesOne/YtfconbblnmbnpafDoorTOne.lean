/-
  The law TablesOne: the walk, under what packages tables and kernel do.
-/
import Derived.Test.YtfconbblnmbnpafDoorJa12
import Derived.Test.YtfconbblnmbnpafDoorJa8
import Derived.Deep.CutRange
import Derived.Deep.RegionWith
import Derived.Deep.RegionHeld3
import Derived.BigQuiet
import Derived.RangeFuncNested
namespace Go.Proofs.YtfconbblnmbnpafDoor
open Go.RowKit

theorem tabE_one (p : PD) : tabE p [p.spans] = plchk p := by
  unfold tabE listsE listsE
  rw [if_neg (by simp), if_neg (by simp), withS_self]
  split
  · rename_i h
    exact h.symm
  · rfl
theorem tabE_none (p : PD) : tabE p [] = 5 := rfl
theorem spl_one {w : World} {k : Nat} (hk : k = w.heap.size) {vs : Value} {l : List S3} (h : Sps w vs l) : Spl (w.alloc (.cells #[vs] 23)) (.slice (some ⟨k, 0, none⟩) 1 1) [l] := by
  subst hk
  refine Or.inr ⟨w.heap.size, 0, 1, rfl, Nat.le_refl _, by simp, fun i l' hi => ?_⟩
  match i, hi with
  | 0, hi =>
    simp at hi
    subst hi
    exact ⟨vs, by simp, h.all ((Below.refl _ _).alloc (Nat.le_refl _) _)⟩
  | i + 1, hi => simp at hi
theorem one_tick {p : PD} {d : TbD} (h0 : d.now = 0) (h1 : d.next = 0) : evT p [p.spans] d = (tickK p p.spans d.k).2 ∧ (tickT p [p.spans] d).k = (tickK p p.spans d.k).1 ∧ (tickT p [p.spans] d).now = 0 ∧ (tickT p [p.spans] d).next = 0 ∧ countT p (tickT p [p.spans] d) = 0 := by
  have hc : countT p d = 0 := by
    unfold countT
    rw [h0, h1, ite_self]
  have hs : spanT p [p.spans] d = p.spans := by
    unfold spanT
    rw [hc]
    rfl
  refine ⟨by unfold evT; rw [hs], by unfold tickT; rw [hs], by unfold tickT; exact hc, h1, ?_⟩
  unfold countT
  show (if _ then d.next else countT p d) = 0
  rw [h1, hc, ite_self]
set_option maxRecDepth 1000000 in
set_option maxHeartbeats 8000000 in
theorem tone_of {G : World → Prop} (C : TabC G) (D : KerC G) (hE : ∀ (e : Int) (W : World), G W → Calls Tryd.prog 10 #[wErr e, .int .i64 e] W fun r w' => r = .returned (.bool true) ∧ Below W.heap.size W w')
    (p : PD) (vc vs vw : Value) (n at_ : Int) (w : World) (hG : G w) (hP : Pln w vc vs vw p) :
    Calls Tryd.prog 7 #[plV vc p.ticks vs vw, .int .i64 n, .int .i64 at_] w fun e w' => e = .returned (.bool true) ∧ Below w.heap.size w w' := by
  obtain ⟨ca, cc, rfl⟩ := hP.code.form
  obtain ⟨sa, sc, rfl⟩ := hP.spans.form
  obtain ⟨wa, wc', rfl⟩ := hP.wires.form
  have hx0 := Bx.first w (.slice ca p.code.length cc) p.ticks (.slice sa p.spans.length sc) (.slice wa p.wires.length wc')
  have HG : Hid (∀ W, Below w.heap.size w W → G W) := fun W hb => C.all w W hG hb
  have HP : Hid (Pln w (.slice ca p.code.length cc) (.slice sa p.spans.length sc) (.slice wa p.wires.length wc') p) := hP
  generalize hW0 : w.alloc (.cells #[.slice ca p.code.length cc, .int .i64 p.ticks, .slice sa p.spans.length sc, .slice wa p.wires.length wc'] 26) = W0 at hx0
  have hsp := spl_one (w := W0) rfl (hP.spans.all hx0.below)
  have hB1 : Below W0.heap.size W0 (W0.alloc (.cells #[.slice sa p.spans.length sc] 23)) := (Below.refl _ _).alloc (Nat.le_refl _) _
  have hx1 := hx0.step hB1
  have HE5 : Hid (∀ W, Below w.heap.size w W → Calls Tryd.prog 10 #[.iface 87 (.int .i64 5), .int .i64 5] W fun r w' => r = .returned (.bool true) ∧ Below W.heap.size W w') := fun W hb => hE 5 W (HG.out W hb)
  have HN0 : Hid (∀ W, Below w.heap.size w W → Calls Tryd.prog 22 #[.agg #[.slice ca p.code.length cc, .int .i64 p.ticks, .slice sa p.spans.length sc, .slice wa p.wires.length wc'], .slice none 0 0] W fun e w' => ∃ x, e = .returned (.tuple #[.pointer x, .iface 87 (.int .i64 5)]) ∧ Below W.heap.size W w') := fun W hb => C.no p _ _ _ _ [] W (HG.out W hb) (hP.all hb) (Or.inl ⟨rfl, _, _, rfl⟩) (by rw [tabE_none]; decide)
  have k0 := hx0.c0
  have k1 := hx0.c1
  have k2 := hx0.c2
  have k3 := hx0.c3
  have l0 := hx1.c0
  have l1 := hx1.c1
  have l2 := hx1.c2
  have l3 := hx1.c3
  unfold plV
  by_cases hp : plchk p = 0
  case neg =>
    have q1 : Calls Tryd.prog 22 #[.agg #[.slice ca p.code.length cc, .int .i64 p.ticks, .slice sa p.spans.length sc, .slice wa p.wires.length wc'], .slice (some ⟨W0.heap.size, 0, none⟩) 1 1] (W0.alloc (.cells #[.slice sa p.spans.length sc] 23)) fun e w' => ∃ x, e = .returned (.tuple #[.pointer x, .iface 87 (.int .i64 (plchk p))]) ∧ Below (W0.alloc (.cells #[.slice sa p.spans.length sc] 23)).heap.size (W0.alloc (.cells #[.slice sa p.spans.length sc] 23)) w' := by
      have := C.no p _ _ _ _ [p.spans] _ (HG.out _ hx1.below) (hP.all hx1.below) hsp (by rw [tabE_one]; exact hp)
      rw [tabE_one, wErr_not hp] at this
      exact this
    have HK : Hid (∀ W, Below w.heap.size w W → Calls Tryd.prog 18 #[.agg #[.slice ca p.code.length cc, .int .i64 p.ticks, .slice sa p.spans.length sc, .slice wa p.wires.length wc']] W fun e w' => ∃ x, e = .returned (.tuple #[.pointer x, .iface 87 (.int .i64 (plchk p))]) ∧ Below W.heap.size W w') := fun W hb => by
      have := D.no p _ _ _ W (HG.out W hb) (hP.all hb) hp
      rw [wErr_not hp] at this
      exact this
    generalize plchk p = z at q1 HK hp
    clear hP hG hE hsp hp
    go_enter Tryd.func7, Tryd.ntmps7
    go_upto_region 1 with fail
    clear hW0
    go_upto_region 4 with (first
      | (go_at_call 22; refine q1.mono ?_; rintro e w2 ⟨xp, rfl, b2⟩; clear q1 k0 k1 k2 k3 l0 l1 l2 l3; have hx2 := hx1.step b2; have k0 := hx2.c0; have k1 := hx2.c1; have k2 := hx2.c2; have k3 := hx2.c3; have q2 := HK.out w2 hx2.below)
      | (go_at_call 18; refine q2.mono ?_; rintro e w3 ⟨xk, rfl, b3⟩; clear q2 k0 k1 k2 k3; have hx3 := hx2.step b3; have k0 := hx3.c0; have k1 := hx3.c1; have k2 := hx3.c2; have k3 := hx3.c3; have q3 := HN0.out w3 hx3.below)
      | (go_at_call 22; refine q3.mono ?_; rintro e w4 ⟨xn, rfl, b4⟩; clear q3; have hx4 := hx3.step b4))
    have bcur : Below w4.heap.size w4 w4.drew := (Below.refl _ _).drew
    have HE6 : Hid (∀ W, Below w4.heap.size w4 W → Calls Tryd.prog 10 #[.iface 87 (.int .i64 5), .int .i64 5] W fun r w' => r = .returned (.bool true) ∧ Below W.heap.size W w') := fun W hb => HE5.out W (hx4.step hb).below
    go_cut [41] from 32 to 40 (fun s41 wx => s41 = .bool false ∧ Below w4.heap.size w4 wx)
    case first =>
      go_region_held3 (fun _ => True)
        (first | trivial)
        (first
          | (go_at_call 10; refine (HE6.out _ bcur).mono ?_; rintro e wN ⟨rfl, bN⟩; replace bcur := bcur.trans (bN.mono bcur.size); clear bN))
      all_goals (go_wp2_with fail; go_meet; exact ⟨rfl, bcur⟩)
    case rest =>
    obtain ⟨rfl, hbc⟩ := hcut
    go_wp2
    go_ret
    exact ⟨rfl, (hx4.step hbc).below⟩
  have hz : tabE p [p.spans] = 0 := by rw [tabE_one]; exact hp
  have q1 : Calls Tryd.prog 22 #[.agg #[.slice ca p.code.length cc, .int .i64 p.ticks, .slice sa p.spans.length sc, .slice wa p.wires.length wc'], .slice (some ⟨W0.heap.size, 0, none⟩) 1 1] (W0.alloc (.cells #[.slice sa p.spans.length sc] 23)) fun e w' => ∃ cb F, e = .returned (.tuple #[.pointer (some ⟨cb, 0, none⟩), .nilIface]) ∧ C.K (W0.alloc (.cells #[.slice sa p.spans.length sc] 23)) w' p [p.spans] (newT p) cb F := C.new p _ _ _ _ [p.spans] _ (HG.out _ hx1.below) (hP.all hx1.below) hsp hz
  have HK : Hid (∀ W, Below w.heap.size w W → Calls Tryd.prog 18 #[.agg #[.slice ca p.code.length cc, .int .i64 p.ticks, .slice sa p.spans.length sc, .slice wa p.wires.length wc']] W fun e w' => ∃ kb H, e = .returned (.tuple #[.pointer (some ⟨kb, 0, none⟩), .nilIface]) ∧ D.K W w' p (.slice ca p.code.length cc) (.slice sa p.spans.length sc) (.slice wa p.wires.length wc') (newK p) kb H) := fun W hb => D.new p _ _ _ W (HG.out W hb) (hP.all hb) hp
  have HG1 : Hid (G (W0.alloc (.cells #[.slice sa p.spans.length sc] 23))) := HG.out _ hx1.below
  have hs1 := hx1.size
  clear hP hG hE hsp
  go_enter Tryd.func7, Tryd.ntmps7
  go_upto_region 1 with fail
  clear hW0
  go_upto_region 4 with (first
    | (go_at_call 22; refine q1.mono ?_; rintro e w2 ⟨cb, F, rfl, hT⟩; clear q1 k0 k1 k2 k3 l0 l1 l2 l3; have hx2 := hx1.step (C.since hT); have k0 := hx2.c0; have k1 := hx2.c1; have k2 := hx2.c2; have k3 := hx2.c3; have q2 := HK.out w2 hx2.below)
    | (go_at_call 18; refine q2.mono ?_; rintro e w3 ⟨kb, H, rfl, hK⟩; clear q2 k0 k1 k2 k3; have hx3 := hx2.step (D.since hK); have k0 := hx3.c0; have k1 := hx3.c1; have k2 := hx3.c2; have k3 := hx3.c3; have q3 := HN0.out w3 hx3.below)
    | (go_at_call 22; refine q3.mono ?_; rintro e w4 ⟨xn, rfl, b4⟩; clear q3; have hx4 := hx3.step b4))
  generalize W0.alloc (.cells #[.slice sa p.spans.length sc] 23) = w1 at *
  have hTK : TK C D w1 w4 p [p.spans] p (.slice ca p.code.length cc) (.slice sa p.spans.length sc) (.slice wa p.wires.length wc') (newT p) (newT p).k cb F kb H := by
    have h3 := C.frame hT (KTouch.of (M := []) (D.since hK)) (by simp)
    refine TK.all (wr := w3) ⟨h3, D.lower (C.since hT) hK, fun g hg hm => ?_, newT_ok hz, new_ok hp⟩ b4
    have h5 := (C.ge hT g hg).2
    have h6 := (D.ge hK g hm).1
    omega
  clear hT hK k0 k1 k2 k3
  have bcur : Below w4.heap.size w4 w4.drew := (Below.refl _ _).drew
  have HE6 : Hid (∀ W, Below w4.heap.size w4 W → Calls Tryd.prog 10 #[.iface 87 (.int .i64 5), .int .i64 5] W fun r w' => r = .returned (.bool true) ∧ Below W.heap.size W w') := fun W hb => HE5.out W (hx4.step hb).below
  go_cut [41] from 32 to 40 (fun s41 wx => s41 = .bool false ∧ Below w4.heap.size w4 wx)
  case first =>
    clear hTK
    go_region_held3 (fun _ => True)
      (first | trivial)
      (first
        | (go_at_call 10; refine (HE6.out _ bcur).mono ?_; rintro e wN ⟨rfl, bN⟩; replace bcur := bcur.trans (bN.mono bcur.size); clear bN))
    all_goals (go_wp2_with fail; go_meet; exact ⟨rfl, bcur⟩)
  case rest =>
  obtain ⟨rfl, hbc⟩ := hcut
  replace hTK := hTK.all hbc
  have hx5 := hx4.step hbc
  clear bcur hbc hx4
  generalize wc = w5 at *
  go_wp2
  go_loopw [13] (fun s13 wr => ∃ (i : Nat) (d : TbD) (F H : List Nat), i ≤ 100 ∧ s13 = .int .i64 i ∧ d.k.time ≤ i ∧ d.now = 0 ∧ d.next = 0 ∧ TK C D w1 wr p [p.spans] p (.slice ca p.code.length cc) (.slice sa p.spans.length sc) (.slice wa p.wires.length wc') d d.k cb F kb H ∧ Below w.heap.size w wr) (fun s _ => 100 - (intOf s).toNat)
  case atStart => exact ⟨0, newT p, F, H, Nat.zero_le _, rfl, (by show (0 : Int) ≤ ((0 : Nat) : Int); omega), rfl, rfl, hTK, hx5.below⟩
  case round =>
  clear hTK
  obtain ⟨i, d, F1, H1, hi, rfl, htm, hn0, hn1, hTK, hbw⟩ := hrel
  by_cases hin : (i : Int) < n
  case neg =>
    have hin' : decide ((i : Int) < n) = false := decide_eq_false hin
    clear hTK
    go_wp2
    go_ret
    exact ⟨rfl, hbw⟩
  have hin' : decide ((i : Int) < n) = true := decide_eq_true hin
  by_cases hi2 : i < 100
  case neg =>
    obtain rfl : i = 100 := by omega
    rw [show ((100 : Nat) : Int) = 100 from rfl] at hin hin' ⊢
    clear hTK
    go_wp2
    go_ret
    exact ⟨rfl, hbw⟩
  have hi6 : (i : Int) < 100 := by omega
  rename World => wA
  go_upto_region 11 with fail
  go_cut [60] from 53 to 59 (fun s60 wx => s60 = .bool false ∧ ∃ (F' : List Nat) (d' : TbD), d'.k = d.k ∧ d'.now = 0 ∧ d'.next = 0 ∧ TK C D w1 wx p [p.spans] p (.slice ca p.code.length cc) (.slice sa p.spans.length sc) (.slice wa p.wires.length wc') d' d.k cb F' kb H1)
  case first =>
    by_cases ha : (i : Int) = at_
    · have ha' : ((i : Int) == at_) = true := by simpa using ha
      have q1 := tk_ask hz 0 hTK
      have he : askE [p.spans] 0 = 0 := by unfold askE; rw [if_neg (by simp)]
      have HD : Hid ((askT [p.spans] d 0).k = d.k ∧ (askT [p.spans] d 0).now = 0 ∧ (askT [p.spans] d 0).next = 0) := by
        unfold askT
        rw [if_pos he]
        exact ⟨rfl, hn0, rfl⟩
      rw [he, show wErr 0 = .nilIface from rfl] at q1
      generalize askT [p.spans] d 0 = d' at q1 HD
      clear ha hTK he
      go_wp2_with (go_at_call 24; refine q1.mono ?_; rintro e w6 ⟨rfl, F', hTK', tk, hF⟩; clear q1)
      go_meet
      case rel => exact ⟨rfl, F', d', HD.out.1, HD.out.2.1, HD.out.2.2, hTK'⟩
    · have ha' : ((i : Int) == at_) = false := by simpa using ha
      have HT : Hid (TK C D w1 wA p [p.spans] p (.slice ca p.code.length cc) (.slice sa p.spans.length sc) (.slice wa p.wires.length wc') d d.k cb F1 kb H1) := hTK
      have HN : Hid (d.now = 0 ∧ d.next = 0) := ⟨hn0, hn1⟩
      clear ha hTK hn0 hn1
      go_wp2_with fail
      go_meet
      case rel => exact ⟨rfl, F1, d, rfl, HN.out.1, HN.out.2, HT.out⟩
  case rest =>
  obtain ⟨rfl, F2, d2, hd2, hm0, hm1, hTK2⟩ := hcut
  clear hTK
  generalize wc = wB at *
  have htm2 : d2.k.time ≤ i := by rw [hd2]; exact htm
  have q1 := tk_tick HG1.out hz hp (by omega) (by omega) hTK2
  obtain ⟨e1, e2, e3, e4, e5⟩ := one_tick (p := p) hm0 hm1
  have HQ : Hid (∀ w6 F' H', TK C D w1 w6 p [p.spans] p (.slice ca p.code.length cc) (.slice sa p.spans.length sc) (.slice wa p.wires.length wc') (tickT p [p.spans] d2) (tickK p p.spans d.k).1 cb F' kb H' → TK C D w1 w6 p [p.spans] p (.slice ca p.code.length cc) (.slice sa p.spans.length sc) (.slice wa p.wires.length wc') (tickT p [p.spans] d2) (tickT p [p.spans] d2).k cb F' kb H' ∧ Below w.heap.size w w6 ∧ Calls Tryd.prog 25 #[.pointer (some ⟨cb, 0, none⟩)] w6 fun e w' => e = .returned (.int .i64 0) ∧ Below w6.heap.size w6 w') := fun w6 F' H' h => by
    refine ⟨by rw [e2, hd2]; exact h, hx1.below.trans (h.since.mono (by omega)), ?_⟩
    have := tk_now hz h
    rw [e5] at this
    exact this
  have HTm : Hid ((tickT p [p.spans] d2).k.time ≤ (i : Int) + 1 ∧ (tickT p [p.spans] d2).now = 0 ∧ (tickT p [p.spans] d2).next = 0) := ⟨by rw [tickT_time]; omega, e3, e4⟩
  rw [e1, hd2] at q1
  unfold evA at q1
  generalize (tickK p p.spans d.k).1 = k' at q1 HQ
  generalize (tickK p p.spans d.k).2.1 = t1 at q1
  generalize (tickK p p.spans d.k).2.2.1 = t2 at q1
  generalize (tickK p p.spans d.k).2.2.2.1 = t3 at q1
  generalize (tickK p p.spans d.k).2.2.2.2 = t4 at q1
  generalize tickT p [p.spans] d2 = d3 at q1 HQ HTm
  have heq := neq_ev
  clear e1 e2 e3 e4 e5 hTK2 hd2 hm0 hm1 htm2 hn0 hn1
  go_wp2_with (first
    | (go_at_call 23; refine q1.mono ?_; rintro e w6 ⟨rfl, _, q2⟩; clear q1)
    | (go_at_call 20; refine (q2 _ (Below.refl _ _)).mono ?_; rintro e w7 ⟨rfl, F3, H3, hTK3, _, _⟩; clear q2; obtain ⟨hTK4, hb7, q3⟩ := HQ.out w7 F3 H3 hTK3)
    | (go_at_call 25; refine q3.mono ?_; rintro e w8 ⟨rfl, b8⟩; clear q3))
  have HF : Hid (TK C D w1 w8 p [p.spans] p (.slice ca p.code.length cc) (.slice sa p.spans.length sc) (.slice wa p.wires.length wc') d3 d3.k cb F3 kb H3 ∧ Below w.heap.size w w8) := ⟨hTK4.all b8, hb7.trans (b8.mono hb7.size)⟩
  clear hTK3 hTK4
  go_roundw
  case rel => exact ⟨i + 1, d3, F3, H3, by omega, by go_num, (by have := HTm.out.1; push_cast; omega), HTm.out.2.1, HTm.out.2.2, HF.out.1, HF.out.2⟩
  case measure => simp [intOf]; omega
end Go.Proofs.YtfconbblnmbnpafDoor
