/-
  LogNw, LogG, LogGC, LogGT, LogGX, LogGS: joined into one text.
-/
import Derived.Test.YtajfgmlockjmhaiGreatDoorJt6
import Derived.Test.YtajfgmlockjmhaiGreatDoorPlCln
import Derived.Test.YtajfgmlockjmhaiGreatDoorJt1
import Derived.Test.YtajfgmlockjmhaiGreatDoorLogGo
import Derived.Test.YtajfgmlockjmhaiGreatDoorJt3
import Derived.Test.YtajfgmlockjmhaiGreatDoorLogCr0
import Derived.Test.YtajfgmlockjmhaiGreatDoorJt2
namespace Go.Proofs.YtajfgmlockjmhaiGreatDoor
open Go.RowKit
section
variable {G : World → Prop} {D : KerC G}

set_option maxRecDepth 100000 in
set_option maxHeartbeats 4000000 in
theorem lgnew_no (D : KerC G) (p : PD) (vc vs vw : Value) (w : World) (hG : G w) (hP : Pln w vc vs vw p) (hp : plchk p ≠ 0) :
    Calls Tryz.prog 17 #[plV vc p.ticks vs vw] w fun e w' => ∃ x, e = .returned (.tuple #[.pointer x, wErr (plchk p)]) ∧ Below w.heap.size w w' := by
  obtain ⟨ca, cc, rfl⟩ := hP.code.form
  obtain ⟨sa, sc, rfl⟩ := hP.spans.form
  obtain ⟨wa, wc', rfl⟩ := hP.wires.form
  have hA : Below w.heap.size w (w.alloc (.cells #[.slice ca p.code.length cc, .int .i64 p.ticks, .slice sa p.spans.length sc, .slice wa p.wires.length wc'] 26)) := (Below.refl _ _).alloc (Nat.le_refl _) _
  have hc := D.no p _ _ _ _ (D.all _ _ hG hA) (hP.all hA) hp
  unfold plV at hc ⊢
  rw [wErr_not hp] at hc ⊢
  generalize plchk p = ec at hc hp ⊢
  clear hP hG
  go_enter Tryz.func17, Tryz.ntmps17
  go_wp2_with (go_at_call 9; refine hc.mono ?_; rintro e w1 ⟨x0, rfl, b1⟩; clear hc)
  go_ret2
  exact ⟨none, rfl, hA.trans (b1.mono hA.size)⟩
theorem GL.made {w W0 w1 w2 : World} {p : PD} {kb : Nat} {FK : List Nat} {vc vs vw ic is iw : Value} {us : List Value} (h0 : Below w.heap.size w W0) (hK : D.K W0 w1 p vc vs vw (newK p) kb FK) (hO : PlO w2 w1.heap.size ic is iw p us) (b2 : Below w1.heap.size w1 w2) :
    GL D w (w2.alloc (.cells #[ic, .int .i64 p.ticks, is, iw, .pointer (some ⟨kb, 0, none⟩), .slice none 0 0, .int .i64 0, .int .i64 (-1), .bool false] 113)) p newL (newK p) w2.heap.size ⟨kb, FK, vc, vs, vw, ic, is, iw, us, .slice none 0 0, []⟩ := by
  have b3 : Below w2.heap.size w2 (w2.alloc (.cells #[ic, .int .i64 p.ticks, is, iw, .pointer (some ⟨kb, 0, none⟩), .slice none 0 0, .int .i64 0, .int .i64 (-1), .bool false] 113)) := (Below.refl _ _).alloc (Nat.le_refl _) _
  have s1 : W0.heap.size ≤ w1.heap.size := (D.since hK).size
  have s2 : w1.heap.size ≤ w2.heap.size := b2.size
  have h1 : Below w.heap.size w w1 := h0.trans ((D.since hK).mono h0.size)
  have h2 : Below w.heap.size w w2 := h1.trans (b2.mono h1.size)
  have hge := D.ge hK
  have hK3 := D.lower h0 (D.frame (M := []) (D.frame (M := []) hK (KTouch.of b2) (by simp)) (KTouch.of b3) (by simp))
  refine ⟨h2.trans (b3.mono h2.size), World.alloc_heap_new _ _, hK3, (hO.kept b3.size (fun g hg => b3.block g (hO.flt g hg).2)).lower h1.size, World.ownsRow_nil _ _ _ _, LTx.new, h2.size, fun hm => ?_, fun hm => ?_, fun g hg => ?_, fun g hg hm => ?_⟩
  · have := (hO.flt _ hm).2
    omega
  · have := (hge _ hm).2
    omega
  · cases hg
  · have h3 := (hO.flt g hg).1
    have h4 := (hge g hm).2
    omega

set_option maxRecDepth 100000 in
set_option maxHeartbeats 4000000 in
theorem lgnew_ok (p : PD) (vc vs vw : Value) (w : World) (hG : G w) (hP : Pln w vc vs vw p) (hp : plchk p = 0) :
    Calls Tryz.prog 17 #[plV vc p.ticks vs vw] w fun e w' => ∃ lb x, e = .returned (.tuple #[.pointer (some ⟨lb, 0, none⟩), .nilIface]) ∧ GL D w w' p newL (newK p) lb x := by
  obtain ⟨ca, cc, rfl⟩ := hP.code.form
  obtain ⟨sa, sc, rfl⟩ := hP.spans.form
  obtain ⟨wa, wc', rfl⟩ := hP.wires.form
  have hx0 := Bx.first w (.slice ca p.code.length cc) p.ticks (.slice sa p.spans.length sc) (.slice wa p.wires.length wc')
  have hc := D.new p _ _ _ _ (D.all _ _ hG hx0.below) (hP.all hx0.below) hp
  have HP : Hid (∀ W, Below w.heap.size w W → Calls Tryz.prog 48 #[plV (.slice ca p.code.length cc) p.ticks (.slice sa p.spans.length sc) (.slice wa p.wires.length wc')] W fun e w' => ∃ ic is iw, e = .returned (plV ic p.ticks is iw) ∧ (∃ us, PlO w' W.heap.size ic is iw p us) ∧ Below W.heap.size W w') := fun W hb => plclone_any p _ _ _ W (hP.all hb) hp
  have HM : Hid (∀ w1 w2 kb FK ic is iw us, D.K (w.alloc (.cells #[.slice ca p.code.length cc, .int .i64 p.ticks, .slice sa p.spans.length sc, .slice wa p.wires.length wc'] 26)) w1 p (.slice ca p.code.length cc) (.slice sa p.spans.length sc) (.slice wa p.wires.length wc') (newK p) kb FK → PlO w2 w1.heap.size ic is iw p us → Below w1.heap.size w1 w2 → GL D w (w2.alloc (.cells #[ic, .int .i64 p.ticks, is, iw, .pointer (some ⟨kb, 0, none⟩), .slice none 0 0, .int .i64 0, .int .i64 (-1), .bool false] 113)) p newL (newK p) w2.heap.size ⟨kb, FK, .slice ca p.code.length cc, .slice sa p.spans.length sc, .slice wa p.wires.length wc', ic, is, iw, us, .slice none 0 0, []⟩) := fun w1 w2 kb FK ic is iw us a b c => GL.made hx0.below a b c
  unfold plV at *
  clear hP hG hp
  go_enter Tryz.func17, Tryz.ntmps17
  go_wp2_with (first
    | (go_at_call 9; refine hc.mono ?_; rintro e w1 ⟨kb, FK, rfl, hK⟩; clear hc; have hx1 := hx0.step (D.since hK); have k0 := hx1.c0; have k1 := hx1.c1; have k2 := hx1.c2; have k3 := hx1.c3; have q2 := HP.out w1 hx1.below)
    | (go_at_call 48; refine q2.mono ?_; rintro e w2 ⟨ic, is, iw, rfl, ⟨us, hO⟩, b2⟩; clear q2; have HZ := HM.out w1 w2 kb FK ic is iw us hK hO b2; obtain ⟨i1, i2, i3, rfl⟩ := own_form hO.own; obtain ⟨j1, j2, j3, rfl⟩ := own_form hO.sps; obtain ⟨l1, l2, l3, rfl⟩ := own_form hO.wrs; clear hK hO))
  go_ret2
  exact ⟨_, _, rfl, HZ⟩
end
end Go.Proofs.YtajfgmlockjmhaiGreatDoor
namespace Go.Proofs.YtajfgmlockjmhaiGreatDoor
open Go.RowKit

/-- A log of package log, made since w0, and all its blocks. -/
def LG {G : World → Prop} (D : KerC G) (w0 w : World) (p : PD) (d : LgD) (cb : Nat) (F : List Nat) : Prop := ∃ x : LW, GL D w0 w p d (d.k p) cb x ∧ F = x.F cb
def glogD {G : World → Prop} (D : KerC G) (DP : KerPoke D) (DT : KerTime D) (hT : ∀ w, G w → Pow10 w) : LogC G where
  K := LG D
  all := D.all
  since := fun ⟨_, h, _⟩ => h.since
  ge := fun ⟨_, h, hF⟩ g hg => by
    subst hF
    exact h.flt g hg
  lower := fun h1 ⟨x, h, hF⟩ => ⟨x, h.lower h1, hF⟩
  frame := fun ⟨x, h, hF⟩ ht hM => by
    subst hF
    exact ⟨x, h.frame ht hM, rfl⟩
  new := fun p vc vs vw W hg hP hp => by
    refine (lgnew_ok (D := D) p vc vs vw W hg hP hp).mono ?_
    rintro e w' ⟨lb, x, rfl, h⟩
    exact ⟨lb, _, rfl, x, h, rfl⟩
  no := fun p vc vs vw W hg hP hp => lgnew_no D p vc vs vw W hg hP hp
  go := fun n hg ⟨x, h, hF⟩ hp hok => by
    subst hF
    refine (lggo_any n _ DP DT hT hg hp h hok).mono ?_
    rintro e w' ⟨rfl, x', sz, h1, h2, h3, h4, h5⟩
    exact ⟨rfl, sz, _, h1, h2, ⟨x', h3, rfl⟩, h4, h5⟩
end Go.Proofs.YtajfgmlockjmhaiGreatDoor
namespace Go.Proofs.YtajfgmlockjmhaiGreatDoor
open Go.RowKit

theorem glogD_crash {G : World → Prop} {D : KerC G} {DP : KerPoke D} {DT : KerTime D} {hT : ∀ w, G w → Pow10 w} (hT2 : ∀ w, G w → Tabs2 w) : LogCrash (glogD D DP DT hT) := fun n hg ⟨x, h, hF⟩ hp hok => by
  subst hF
  refine (lgcrash_any n _ DP hT2 hg hp h hok).mono ?_
  rintro e w' ⟨hv, x', h3, h4, h5⟩
  exact ⟨hv, _, ⟨x', h3, rfl⟩, h4, h5⟩
end Go.Proofs.YtajfgmlockjmhaiGreatDoor
namespace Go.Proofs.YtajfgmlockjmhaiGreatDoor
open Go.RowKit

theorem glogD_time {G : World → Prop} {D : KerC G} {DP : KerPoke D} {DT : KerTime D} {hT : ∀ w, G w → Pow10 w} : LogRd (glogD D DP DT hT) 23 (fun d p => .int .i64 (d.k p).time) := fun ⟨_, h, _⟩ _ _ => lgtime_any _ _ DT h
end Go.Proofs.YtajfgmlockjmhaiGreatDoor
namespace Go.Proofs.YtajfgmlockjmhaiGreatDoor
open Go.RowKit

theorem glogD_state {G : World → Prop} {D : KerC G} {DP : KerPoke D} {DT : KerTime D} {hT : ∀ w, G w → Pow10 w} : LogState (glogD D DP DT hT) := fun r ⟨_, h, _⟩ _ hp => lgstate_any r _ h hp
end Go.Proofs.YtajfgmlockjmhaiGreatDoor
namespace Go.Proofs.YtajfgmlockjmhaiGreatDoor
open Go.RowKit

theorem glogD_sync {G : World → Prop} {D : KerC G} {DP : KerPoke D} {DT : KerTime D} {hT : ∀ w, G w → Pow10 w} : LogSync (glogD D DP DT hT) := fun hg ⟨x, h, hF⟩ hp hok => by
  subst hF
  refine (lgsync_any _ h).mono ?_
  rintro e w' ⟨rfl, h3, h4⟩
  exact ⟨rfl, _, ⟨x, h3, rfl⟩, h4, fun g hg => Or.inl hg⟩
end Go.Proofs.YtajfgmlockjmhaiGreatDoor
