/-
  frameref1's kernel: one tick.
-/
import Derived.Test.YtajfgmlockjmhaiGreatDoorJk7
import Derived.Test.YtajfgmlockjmhaiGreatDoorRefStep6
import Derived.Test.YtajfgmlockjmhaiGreatDoorJk3
import Derived.Test.YtajfgmlockjmhaiGreatDoorJk1
import Derived.Deep.CutRange
import Derived.Deep.RegionWith
import Derived.BigQuiet
import Derived.RangeFuncNested
namespace Go.Proofs.YtajfgmlockjmhaiGreatDoor
open Go.RowKit

/-- A block of a line's numbers as they were. -/
def OldU (a : KW) (g : Nat) : Prop := ∃ u ∈ a.us, u.ownBlock = some g
set_option maxRecDepth 100000 in
set_option maxHeartbeats 8000000 in
theorem tickby_any (p : PD) (vc vs vw : Value) (sp : List S3) (sa : Option Addr) (sc : Nat) (k : KD) (a : KW) (base : Nat) (w : World) (hp : plchk p = 0) (hk : KOk p k) (ht : k.time < 100000000) (h : RK w base p vc vs vw k a) (w0 : World) (hw00 : base = w0.heap.size) (hb0 : Below w0.heap.size w0 w) (hPc : Cds w0 vc p.code) (hsp : Sps w0 (.slice sa sp.length sc) sp) (hsl : sp.length ≤ 12) (hw : ∀ t, -1 ≤ hold sp t ∧ (0 ≤ hold sp t → (hold sp t).toNat < p.code.length)) :
    Calls Tryz.prog 91 #[.pointer (some ⟨a.kb, 0, none⟩), .slice sa sp.length sc] w fun e w' => e = .returned (.agg #[.int .i64 (tickK p sp k).2.1, .int .i64 (tickK p sp k).2.2.1, .int .i64 (tickK p sp k).2.2.2.1, .int .i64 (tickK p sp k).2.2.2.2]) ∧ (∃ us, RK w' base p vc vs vw (tickK p sp k).1 { a with us := us } ∧ ∀ u ∈ us, ∀ g, u.ownBlock = some g → OldU a g ∨ w.heap.size ≤ g) ∧ KTouch a.m w w' := by
  have hfz := fchk_zero (plchk_zero hp).2.2.1
  have hkb : a.kb < w.heap.size := Nat.lt_of_lt_of_le h.lt.1 h.le
  have hw0 : Below w.heap.size w (w.alloc (.cells #[.int .i64 0, .int .i64 0, .int .i64 0, .int .i64 0] 39)) := (Below.refl _ w).alloc (Nat.le_refl _) _
  have HWho : Hid (∀ W, Below w.heap.size w W → Calls Tryz.prog 130 #[.int .i64 p.ticks, .slice sa sp.length sc, .int .i64 k.time] W fun e w' => e = .returned (.int .i64 (hold sp (k.time % p.ticks))) ∧ Below W.heap.size W w') := fun W hb => refwho_any p.ticks sp _ k.time W (hsp.all (hb0.trans (hb.mono hb0.size))) hfz.1 hfz.2.1 hk.time hsl
  have H : Hid (RK w base p vc vs vw k a) := h
  have c1 := h.c1
  have c6 := h.c6
  have f6 := h.f6
  have hti := hk.time
  have HB : Hid (∀ W, KTouch a.m w W → Below w0.heap.size w0 W) := fun W ht => hb0.trans (ht.below (fun b hb => by rw [← hw00]; exact h.mge b hb) hb0.size)
  obtain ⟨r, hr⟩ : ∃ r, r = hold sp (k.time % p.ticks) := ⟨_, rfl⟩
  rw [← hr] at HWho
  have HR : Hid (r = hold sp (k.time % p.ticks)) := hr
  clear hr
  go_enter Tryz.func91, Tryz.ntmps91
  go_upto_region 1 with fail
  go_cut [5] from 15 to 30 (fun s5 wx => ∃ e2, s5 = .pointer (some ⟨e2, 0, none⟩) ∧ Ev w wx e2 k.time r 0 0 ∧ Below w.heap.size w wx)
  case first =>
    have hc1 : ∀ W, Below w.heap.size w W → W.cell? ⟨a.kb, 1, none⟩ = some (.int .i64 p.ticks) ∧ W.cell? ⟨a.kb, 6, none⟩ = some (.int .i64 k.time) := fun W hb => ⟨(hb.cell (p := ⟨a.kb, 1, none⟩) hkb).trans c1, (hb.cell (p := ⟨a.kb, 6, none⟩) hkb).trans c6⟩
    have hn1 := World.new_ne w ⟨a.kb, 1, none⟩ c1
    have hn6 := World.new_ne w ⟨a.kb, 6, none⟩ c6
    have hA : Below w.heap.size w (w.alloc (.cells #[.int .i64 0, .int .i64 0, .int .i64 0, .int .i64 0] 39)).drew := hw0.drew
    have hA2 : Below w.heap.size w (((w.alloc (.cells #[.int .i64 0, .int .i64 0, .int .i64 0, .int .i64 0] 39)).alloc (.cells #[.int .i64 0, .int .i64 0, .int .i64 0, .int .i64 0] 39)).drew) := (hw0.alloc (by simp) _).drew
    go_region_held3 (fun w' => w'.cell? ⟨a.kb, 1, none⟩ = some (.int .i64 p.ticks) ∧ w'.cell? ⟨a.kb, 6, none⟩ = some (.int .i64 k.time))
      (first | exact hc1 _ hA | exact hc1 _ hA2 | exact hc1 _ hB1 | exact hc1 _ hB2 | exact hc1 _ (hB1.alloc hB1.size _) | exact hc1 _ ((((hB2.setCell (p := ⟨w.heap.size + 1, 0, none⟩) (by simp) _).setCell (p := ⟨w.heap.size + 1, 1, none⟩) (by simp) _).setCell (p := ⟨w.heap.size + 1, 2, none⟩) (by simp) _).setCell (p := ⟨w.heap.size + 1, 3, none⟩) (by simp) _) | go_keep)
      (first
        | (go_at_call 130; refine (HWho.out _ hA).mono ?_; rintro e w1 ⟨rfl, b1⟩; have hB1 : Below w.heap.size w w1 := hA.trans (b1.mono (by simp)))
        | (go_at_call 130; refine (HWho.out _ hA2).mono ?_; rintro e w1 ⟨rfl, b1⟩; have hB2 : Below w.heap.size w w1 := hA2.trans (b1.mono (by simp; omega)); obtain ⟨⟨z0, z1, z2, z3⟩, y0, y1, y2, y3⟩ := ev_box (w := w) b1))
    · go_wp2_with fail
      go_meet
      case rel =>
        refine ⟨w1.heap.size, rfl, ⟨?_, ?_, ?_, ?_⟩, hB1.alloc hB1.size _⟩
        · exact (Below.heap_alloc _ _ _ (by have := b1.size; simp at this; omega)).trans ((b1.block _ (by simp)).trans (World.alloc_heap_new w _))
        · exact World.alloc_heap_new w1 _
        · have := b1.size
          simp at this
          omega
        · exact hB1.size
    · go_wp2_with fail
      go_meet
      case rel =>
        refine ⟨w.heap.size + 1, rfl, ⟨?_, ?_, by omega, by omega⟩, ?_⟩
        · show (((((w1.setCell _ _).setCell _ _).setCell _ _).setCell _ _).heap[w.heap.size]?) = _
          rw [Below.heap_setCell _ _ _ _ (show w.heap.size ≠ w.heap.size + 1 by omega), Below.heap_setCell _ _ _ _ (show w.heap.size ≠ w.heap.size + 1 by omega), Below.heap_setCell _ _ _ _ (show w.heap.size ≠ w.heap.size + 1 by omega), Below.heap_setCell _ _ _ _ (show w.heap.size ≠ w.heap.size + 1 by omega)]
          exact (b1.block _ (by simp; omega)).trans ((Below.heap_alloc _ _ _ (by simp)).trans (World.alloc_heap_new w _))
        · have hb : EvB w1 (w.heap.size + 1) 0 0 0 0 := (b1.block _ (by simp)).trans (by
            have := World.alloc_heap_new (w.alloc (.cells #[.int .i64 0, .int .i64 0, .int .i64 0, .int .i64 0] 39)) (.cells #[.int .i64 0, .int .i64 0, .int .i64 0, .int .i64 0] 39)
            rw [World.size_alloc] at this
            exact this)
          exact hb.set _ _ _ _
        · exact (((hB2.setCell (p := ⟨w.heap.size + 1, 0, none⟩) (by simp) _).setCell (p := ⟨w.heap.size + 1, 1, none⟩) (by simp) _).setCell (p := ⟨w.heap.size + 1, 2, none⟩) (by simp) _).setCell (p := ⟨w.heap.size + 1, 3, none⟩) (by simp) _
  case rest =>
    obtain ⟨e2, rfl, hev, hbw⟩ := hcut
    have D1 := H.out.all hbw
    have k6 := D1.c6
    have j6 := D1.f6
    have hadd : k.time + 1 ≤ 9223372036854775807 := by omega
    have tk1 : KTouch a.m w wc := KTouch.of hbw
    have D2 := D1.tick (k.time + 1)
    have hkm : a.kb ∈ a.m := by simp [KW.m]
    have tk2 : KTouch a.m w (wc.setCell ⟨a.kb, 6, none⟩ (.int .i64 (k.time + 1))) := tk1.trans (KTouch.set wc hkm 6 _)
    have hne2 : e2 ≠ a.kb := by have := hev.ge; omega
    have hnew : w.heap.size ≠ a.kb := by omega
    have ev2 : Ev w (wc.setCell ⟨a.kb, 6, none⟩ (.int .i64 (k.time + 1))) e2 k.time r 0 0 := ⟨(Below.heap_setCell _ _ _ _ hnew).trans hev.res, (Below.heap_setCell _ _ _ _ hne2).trans hev.own, hev.ne, hev.ge⟩
    clear hev hbw D1 tk1
    go_upto_region 3 with fail
    generalize hW3 : wc.setCell ⟨a.kb, 6, none⟩ (.int .i64 (k.time + 1)) = W3 at D2 tk2 ev2 ⊢
    clear hW3 k6 j6
    by_cases hr0 : r < 0
    · have HT : Hid (tickK p sp k = (⟨k.rooms, k.lines, k.time + 1⟩, k.time, r, 0, 0)) := by
        show _ = _
        unfold tickK
        simp only
        rw [← HR.out, if_pos hr0]
      obtain ⟨u0, u1, u2, u3⟩ := ev2.own.cs
      obtain ⟨v0, v1, v2, v3⟩ := ev2.res.cs
      obtain ⟨x0, x1, x2, x3⟩ := ev2.res.fs
      go_wp2
      have tkE : KTouch [w.heap.size] W3 ((((W3.setCell ⟨w.heap.size, 0, none⟩ (.int .i64 k.time)).setCell ⟨w.heap.size, 1, none⟩ (.int .i64 r)).setCell ⟨w.heap.size, 2, none⟩ (.int .i64 0)).setCell ⟨w.heap.size, 3, none⟩ (.int .i64 0)) := (((KTouch.set W3 (by simp) 0 _).trans (KTouch.set _ (by simp) 1 _)).trans (KTouch.set _ (by simp) 2 _)).trans (KTouch.set _ (by simp) 3 _)
      refine bodyPost_ret (v := .agg #[.int .i64 k.time, .int .i64 r, .int .i64 0, .int .i64 0]) ?_ rfl ⟨by rw [HT.out], ⟨a.us, ?_, fun u hu g hg => Or.inl ⟨u, hu, hg⟩⟩, tk2.more tkE (by simp)⟩
      · simp [results, Tryz.results91, go_sem, v0, v1, v2, v3]
      · rw [HT.out]
        exact D2.touch tkE (fun m hm => by
          simp only [List.mem_singleton] at hm
          subst hm
          exact ⟨H.out.le, fun u hu hg => by have := (H.out.rows u hu _ hg).2; omega⟩)
    · obtain ⟨rn, rfl⟩ : ∃ n : Nat, r = n := ⟨r.toNat, by omega⟩
      have hrl : rn < p.code.length := by
        have := (hw (k.time % p.ticks)).2 (by rw [← HR.out]; omega)
        rw [← HR.out] at this
        simpa using this
      have HT : Hid (tickK p sp k = ((turnK p k rn).1, k.time, (rn : Int), (turnK p k rn).2.1, (turnK p k rn).2.2)) := by
        show _ = _
        unfold tickK
        simp only
        rw [← HR.out, if_neg (by omega), Int.toNat_natCast]
      obtain ⟨c, s, o, htn⟩ := turn_of hp hk hrl
      have hri : (rn : Int) < (p.code.length : Int) := by omega
      have hr0' : decide ((rn : Int) < 0) = false := decide_eq_false (by omega)
      obtain ⟨ca, cc, rfl⟩ := hPc.form
      obtain ⟨cb, co, u, n, g, c', rfl, hclt, hcy, hcd, rfl, hops⟩ := hPc.at hrl
      replace hcd := ((HB.out W3 tk2).cell (p := ⟨cb, _, none⟩) hclt).trans hcd
      obtain rfl : c = c' := by
        rw [htn.hc] at hcy
        exact Option.some.inj hcy
      obtain ⟨u0, u1, u2, u3⟩ := ev2.own.cs
      have k0 := D2.c0
      have k4 := D2.c4
      have hst := D2.rooms rn s htn.hs
      have hrk : k.rooms.length = p.code.length := hk.rl
      clear hr0
      go_wp2
      go_quiet (fail)
      go_wp2
      have bq : Below W3.heap.size W3 (W3.drewN nq) := below_dN (Below.refl _ _) nq
      have D4 := D2.all bq
      have ev4 : Ev w (W3.drewN nq) e2 k.time rn 0 0 := ⟨(bq.block _ ev2.res.lt).trans ev2.res, (bq.block _ ev2.own.lt).trans ev2.own, ev2.ne, ev2.ge⟩
      have tk4 : KTouch a.m w (W3.drewN nq) := tk2.trans (KTouch.of bq)
      clear bq k0 k4 hst u0 u1 u2 u3 hcd tk2 ev2 D2
      generalize W3.drewN nq = W4 at D4 ev4 tk4 ⊢
      have k4 := D4.c4
      obtain ⟨u0, u1, u2, u3⟩ := ev4.own.cs
      have hst := D4.rooms rn s htn.hs
      obtain ⟨s0, s1, s2, s3, s4, s5, s6, s7⟩ := hst
      rw [hrk] at k4
      go_cut [7] from 51 to 58 (fun s7 wx => ∃ sb, s7 = .pointer (some ⟨sb, 0, none⟩) ∧ StB wx sb s ∧ W4.heap.size = sb ∧ Below W4.heap.size W4 wx)
      case first =>
        have hnk := World.new_ne W4 ⟨a.kb, 4, none⟩ k4
        have hne := World.new_ne W4 ⟨e2, 1, none⟩ u1
        have hnr := World.new_ne W4 ⟨a.rb, _, none⟩ s0
        go_region_held3 (fun w' => (w'.cell? ⟨a.kb, 4, none⟩ = some (.slice (some ⟨a.rb, 0, none⟩) p.code.length a.rcap) ∧ w'.cell? ⟨e2, 1, none⟩ = some (.int .i64 rn)) ∧ (w'.cell? ⟨a.rb, rn * 8, none⟩ = some (.int .i64 s.p) ∧ w'.cell? ⟨a.rb, rn * 8 + 1, none⟩ = some (.int .i64 (s.c 0)) ∧ w'.cell? ⟨a.rb, rn * 8 + 2, none⟩ = some (.int .i64 (s.c 1)) ∧ w'.cell? ⟨a.rb, rn * 8 + 3, none⟩ = some (.int .i64 (s.c 2))) ∧ (w'.cell? ⟨a.rb, rn * 8 + 4, none⟩ = some (.int .i64 (s.c 3)) ∧ w'.cell? ⟨a.rb, rn * 8 + 5, none⟩ = some (.int .i64 (s.c 4)) ∧ w'.cell? ⟨a.rb, rn * 8 + 6, none⟩ = some (.int .i64 (s.c 5)) ∧ w'.cell? ⟨a.rb, rn * 8 + 7, none⟩ = some (.bool s.f)))
          (first | exact ⟨⟨k4, u1⟩, ⟨s0, s1, s2, s3⟩, s4, s5, s6, s7⟩ | go_keep)
          (fail)
        go_wp2_with fail
        go_meet
        case rel => exact ⟨W4.heap.size, rfl, World.alloc_heap_new W4 _, rfl, ((Below.refl _ W4).alloc (Nat.le_refl _) _).drew⟩
      case rest =>
        obtain ⟨sb, rfl, hsb, hsz, hbc⟩ := hcut
        have D5 := D4.all hbc
        have ev5 : Ev w wc e2 k.time rn 0 0 := ⟨(hbc.block _ ev4.res.lt).trans ev4.res, (hbc.block _ ev4.own.lt).trans ev4.own, ev4.ne, ev4.ge⟩
        have tk5 : KTouch a.m w wc := tk4.trans (KTouch.of hbc)
        have hwsb : w.heap.size ≤ sb := by rw [← hsz]; exact tk4.size
        have hsbe : sb ≠ e2 := by have := ev4.own.lt; omega
        have hsbw : sb ≠ w.heap.size := by have := ev4.res.lt; omega
        clear k4 u0 u1 u2 u3 s0 s1 s2 s3 s4 s5 s6 s7 D4 ev4 tk4 hbc hsz
        obtain ⟨pn, hpn⟩ : ∃ n : Nat, s.p = n := ⟨s.p.toNat, by have := (stOk_iff.1 htn.st).1; omega⟩
        have hpl : pn < c.length := by have := (stOk_iff.1 htn.st).2.1; omega
        have hpi : (pn : Int) < (c.length : Int) := by omega
        have hoc : c[pn]? = some o := by
          have := htn.ho
          rw [hpn] at this
          simpa using this
        obtain ⟨ob, oo, ocap, hoe, holt, hoce⟩ : ∃ b off cap, (Value.slice u c.length g) = .slice (some ⟨b, off, none⟩) c.length cap ∧ b < w0.heap.size ∧ ∀ (i : Nat) o, c[i]? = some o → w0.cell? ⟨b, off + i * 3, none⟩ = some (.int .i64 o.1) ∧ w0.cell? ⟨b, off + i * 3 + 1, none⟩ = some (.int .i64 o.2.1) ∧ w0.cell? ⟨b, off + i * 3 + 2, none⟩ = some (.int .i64 o.2.2) := by
          rcases hops with ⟨h0, _⟩ | h1
          · rw [h0] at hpl
            simp at hpl
          · exact h1
        injection hoe with hoe1 hoe2 hoe3
        subst hoe1
        clear hoe2 hoe3
        obtain ⟨o0, o1, o2⟩ := hoce pn o hoc
        replace o0 := ((HB.out wc tk5).cell (p := ⟨ob, _, none⟩) holt).trans o0
        replace o1 := ((HB.out wc tk5).cell (p := ⟨ob, _, none⟩) holt).trans o1
        replace o2 := ((HB.out wc tk5).cell (p := ⟨ob, _, none⟩) holt).trans o2
        have HOC : Hid (c[pn]? = some o) := hoc
        have HTN : Hid (Turn p k rn c s o) := htn
        have HOP : Hid (Ops w0 (.slice (some ⟨ob, oo, none⟩) c.length g) c) := hops
        have hobw : ob < w.heap.size := Nat.lt_of_lt_of_le holt hb0.size
        clear hoc hoce htn hops
        obtain ⟨s0, s1, s2, s3, s4, s5, s6, s7⟩ := hsb.cs
        simp only [Nat.zero_add] at s1 s2 s3 s4 s5 s6 s7
        rw [hpn] at s0
        obtain ⟨u0, u1, u2, u3⟩ := ev5.own.cs
        obtain ⟨y0, y1, y2, y3⟩ := ev5.own.fs
        have hobe : ob ≠ e2 := by have := ev5.ge; omega
        go_upto_region 11 with fail
        have hb1w : a.b1 ≤ w.heap.size := H.out.le
        have hrows : ∀ u ∈ a.us, ∀ g, u.ownBlock = some g → g < w.heap.size := fun u hu g hg => (H.out.rows u hu g hg).2
        have tkA : KTouch [e2] wc (wc.setCell ⟨e2, 2, none⟩ (.int .i64 pn)) := KTouch.set wc (by simp) 2 _
        have D5a := D5.touch tkA (fun m hm => by
          simp only [List.mem_singleton] at hm
          subst hm
          have := ev5.ge
          exact ⟨by omega, fun u hu hg => by have := hrows u hu _ hg; omega⟩)
        have bA : Below (wc.setCell ⟨e2, 2, none⟩ (.int .i64 pn)).heap.size (wc.setCell ⟨e2, 2, none⟩ (.int .i64 pn)) ((wc.setCell ⟨e2, 2, none⟩ (.int .i64 pn)).alloc (.cells #[.int .i64 o.1, .int .i64 o.2.1, .int .i64 o.2.2] 28)) := (Below.refl _ _).alloc (Nat.le_refl _) _
        have D6 := D5a.all bA
        have tk6 : KTouch a.m w ((wc.setCell ⟨e2, 2, none⟩ (.int .i64 pn)).alloc (.cells #[.int .i64 o.1, .int .i64 o.2.1, .int .i64 o.2.2] 28)) := (tk5.more tkA (by simpa using ev5.ge)).trans (KTouch.of bA)
        have hsz5 : (wc.setCell ⟨e2, 2, none⟩ (.int .i64 pn)).heap.size = wc.heap.size := by simp
        have ev6 : Ev w ((wc.setCell ⟨e2, 2, none⟩ (.int .i64 pn)).alloc (.cells #[.int .i64 o.1, .int .i64 o.2.1, .int .i64 o.2.2] 28)) e2 k.time rn pn 0 := ⟨(bA.block _ (by rw [hsz5]; exact ev5.res.lt)).trans ((Below.heap_setCell _ _ _ _ (Ne.symm ev5.ne)).trans ev5.res), (bA.block _ (by rw [hsz5]; exact ev5.own.lt)).trans (ev5.own.at pn), ev5.ne, ev5.ge⟩
        have hsb6 : StB ((wc.setCell ⟨e2, 2, none⟩ (.int .i64 pn)).alloc (.cells #[.int .i64 o.1, .int .i64 o.2.1, .int .i64 o.2.2] 28)) sb s := (bA.block _ (by rw [hsz5]; exact (Array.getElem?_eq_some_iff.1 hsb).1)).trans ((Below.heap_setCell _ _ _ _ hsbe).trans hsb)
        have hob6 : ((wc.setCell ⟨e2, 2, none⟩ (.int .i64 pn)).alloc (.cells #[.int .i64 o.1, .int .i64 o.2.1, .int .i64 o.2.2] 28)).heap[wc.heap.size]? = some (.cells #[.int .i64 o.1, .int .i64 o.2.1, .int .i64 o.2.2] 28 (0, 0)) := by
          have := World.alloc_heap_new (wc.setCell ⟨e2, 2, none⟩ (.int .i64 pn)) (.cells #[.int .i64 o.1, .int .i64 o.2.1, .int .i64 o.2.2] 28)
          rw [hsz5] at this
          exact this
        have hb2 : w.heap.size ≤ wc.heap.size := tk5.size
        have hb2e : wc.heap.size ≠ e2 := by have := ev5.own.lt; omega
        have hb2r : wc.heap.size ≠ w.heap.size := by have := ev5.res.lt; omega
        have hb2s : wc.heap.size ≠ sb := by have := (Array.getElem?_eq_some_iff.1 hsb).1; omega
        clear tkA D5a bA hsz5 D5 tk5 ev5 hsb s0 s1 s2 s3 s4 s5 s6 s7 u0 u1 u2 u3 y0 y1 y2 y3 o0 o1 o2
        generalize ((wc.setCell ⟨e2, 2, none⟩ (.int .i64 pn)).alloc (.cells #[.int .i64 o.1, .int .i64 o.2.1, .int .i64 o.2.2] 28)) = W6 at D6 tk6 ev6 hsb6 hob6 ⊢
        generalize wc.heap.size = b2 at hb2 hb2e hb2r hb2s hob6 ⊢
        obtain ⟨s0, s1, s2, s3, s4, s5, s6, s7⟩ := hsb6.cs
        simp only [Nat.zero_add] at s1 s2 s3 s4 s5 s6 s7
        have hocs : W6.cell? ⟨b2, 0, none⟩ = some (.int .i64 o.1) ∧ W6.cell? ⟨b2, 1, none⟩ = some (.int .i64 o.2.1) ∧ W6.cell? ⟨b2, 2, none⟩ = some (.int .i64 o.2.2) := by simp [World.cell?, hob6]
        obtain ⟨o0, o1, o2⟩ := hocs
        go_cut [74] from 67 to 73 (fun s74 wx => s74 = .bool (takesB o s) ∧ wx = W6)
        case first =>
          cases hsf : s.f with
          | true =>
            rw [hsf] at s7
            have HX : Hid (takesB o s = false) := by show _ = _; unfold takesB; rw [hsf]; rfl
            go_wp2_with fail
            go_meet
            case rel => exact ⟨by rw [HX.out], rfl⟩
          | false =>
            rw [hsf] at s7
            have HX : Hid (takesB o s = decide (o.1 = 9)) := by show _ = _; unfold takesB; rw [hsf]; rfl
            by_cases h9 : o.1 = 9
            · rw [h9] at o0
              go_wp2_with fail
              go_meet
              case rel => exact ⟨by rw [HX.out, h9]; rfl, rfl⟩
            · have h9' : (o.1 == 9) = false := by simpa using h9
              go_wp2_with fail
              go_meet
              case rel => exact ⟨by rw [HX.out]; simp [h9], rfl⟩
        case rest =>
        rename World => wx6
        obtain ⟨rfl, hwx⟩ := hcut
        rw [hwx]
        clear hwx
        go_step
        have hnm : ∀ m, w.heap.size ≤ m → m ∉ a.m := fun m h1 h2 => by have := H.out.mlt m h2; omega
        go_cut [9, 10] from 74 to 86 (fun s9 s10 wx => ∃ us', s9 = .int .i64 (gotK k o s).1 ∧ s10 = .bool (gotK k o s).2 ∧ RK wx base p (.slice (some ⟨cb, co, none⟩) p.code.length cc) vs vw ⟨k.rooms, linesT k o s, k.time + 1⟩ { a with us := us' } ∧ KTouch a.m W6 wx ∧ ∀ u ∈ us', ∀ g, u.ownBlock = some g → OldU a g ∨ W6.heap.size ≤ g)
        case first =>
          cases htb : takesB o s with
          | false =>
            have HG : Hid (gotK k o s = (0, false) ∧ linesT k o s = k.lines) := by show _ ∧ _; unfold gotK linesT; rw [htb]; exact ⟨rfl, rfl⟩
            go_wp2_with fail
            go_meet
            case rel => exact ⟨a.us, by rw [HG.out.1], by rw [HG.out.1], by rw [HG.out.2]; exact D6, KTouch.refl _ _, fun u hu g hg => Or.inl ⟨u, hu, hg⟩⟩
          | true =>
            have ht9 : o.1 = 9 := by
              unfold takesB at htb
              simp only [Bool.and_eq_true, decide_eq_true_eq] at htb
              exact htb.2
            obtain ⟨xw, hxw, _⟩ := (op_wire hp HTN.out.hc (List.mem_of_getElem? HTN.out.ho)).2 ht9
            obtain ⟨bn, hbn⟩ : ∃ n : Nat, o.2.2 = n := ⟨o.2.2.toNat, by have := (ok3_range HTN.out.ok).2.2.2.2.1; omega⟩
            have hxw' : p.wires[bn]? = some xw := by rw [hbn] at hxw; simpa using hxw
            have hbl : bn < k.lines.length := by rw [hk.ll]; exact (List.getElem?_eq_some_iff.1 hxw').1
            have hbi : (bn : Int) < (k.lines.length : Int) := by omega
            obtain ⟨lb, lu, lcap, l, hl, hlb, hlu, hlv, hlc, hlp, hlm, hRl⟩ := D6.at (i := bn) hbl
            have hla : lineAt k o = l := by simp [lineAt, hbn, List.getD, hl]
            have HG : Hid (gotK k o s = headL l ∧ linesT k o s = k.lines.set bn (restL l)) := by
              show _ ∧ _
              unfold gotK linesT
              rw [htb, hla, hbn]
              exact ⟨rfl, rfl⟩
            have k5 := D6.c5
            rw [hlv] at k5
            rw [hbn] at o2
            have hkd : l.w.2.2.1 = 1 ∨ l.w.2.2.1 = 2 := by
              have hlo := hk.lines bn l xw hl hxw'
              rw [hlo.w]
              rcases wchk_kind ((wschk_ok (plchk_zero hp).2.2.2.1).2 xw (List.mem_of_getElem? hxw')) with ⟨h1, _⟩ | ⟨h1, _⟩
              · exact Or.inl h1
              · exact Or.inr h1
            have hobl6 := (Array.getElem?_eq_some_iff.1 hob6).1
            have HTk : Hid (∀ W, Below W6.heap.size W6 W → Calls Tryz.prog 131 #[.pointer (some ⟨lb, 0, none⟩)] W fun e w' => ∃ us' x0 x1, e = .returned (.tuple #[.int .i64 x0, .bool x1]) ∧ gotK k o s = (x0, x1) ∧ RK w' base p (.slice (some ⟨cb, co, none⟩) p.code.length cc) vs vw ⟨k.rooms, linesT k o s, k.time + 1⟩ { a with us := us' } ∧ KTouch a.m W6 w' ∧ (∀ u ∈ us', ∀ g, u.ownBlock = some g → OldU a g ∨ W6.heap.size ≤ g) ∧ w'.cell? ⟨a.kb, 5, none⟩ = some (.slice (some ⟨a.lr, 0, none⟩) k.lines.length lcap) ∧ w'.cell? ⟨b2, 2, none⟩ = some (.int .i64 bn) ∧ w'.cell? ⟨a.lr, bn, none⟩ = some (.pointer (some ⟨lb, 0, none⟩))) := fun W hb => by
              have hr6 := (D6.all hb).line bn l lb lu hl hlb hlu
              refine (rtake_l _ lb l lu W hkd hr6).mono ?_
              rintro e w' ⟨u', rfl, h3, h4⟩
              obtain ⟨q1, q2, q3⟩ := RK.line_call D6 hb hlb hlu h4 h3 (Pd := OldU a) (fun u hu g hg => ⟨u, hu, hg⟩)
              exact ⟨_, _, _, rfl, HG.out.1, by rw [HG.out.2]; exact q1, q2, q3, by rw [← hlv]; exact q1.c5, (World.cell?_of_block (w := W6) (a := ⟨b2, 2, none⟩) (q2.block _ hobl6 (hnm _ hb2))).trans o2, q1.ptr bn lb hlb⟩
            clear htb hla hl hlb hlu HG hkd hxw hxw' hRl hlv ht9 hbn
            have bQ : Below W6.heap.size W6 W6.drew := (Below.refl _ _).drew
            go_upto_region 12 with fail
            go_region_held3 (fun w' => w'.cell? ⟨a.kb, 5, none⟩ = some (.slice (some ⟨a.lr, 0, none⟩) k.lines.length lcap) ∧ w'.cell? ⟨b2, 2, none⟩ = some (.int .i64 bn) ∧ w'.cell? ⟨a.lr, bn, none⟩ = some (.pointer (some ⟨lb, 0, none⟩)))
              (first | exact ⟨k5, o2, hlp⟩ | exact hq4 | go_keep)
              (first
                | (go_at_call 131; refine (HTk.out _ bQ).mono ?_; rintro e w1 ⟨us', x0, x1, rfl, hgk, hq1, hq2, hq3, hq4⟩))
            go_wp2_with fail
            go_meet
            case rel => exact ⟨us', by rw [hgk], by rw [hgk], hq1, hq2, hq3⟩
        case rest =>
        obtain ⟨us', rfl, rfl, D7, tk7, hus⟩ := hcut
        have tk7w : KTouch a.m w wc := tk6.trans tk7
        have ev7 : Ev w wc e2 k.time rn pn 0 := ⟨(tk7.block _ ev6.res.lt (hnm _ (Nat.le_refl _))).trans ev6.res, (tk7.block _ ev6.own.lt (hnm _ ev6.ge)).trans ev6.own, ev6.ne, ev6.ge⟩
        have hsbl := (Array.getElem?_eq_some_iff.1 hsb6).1
        have hobl := (Array.getElem?_eq_some_iff.1 hob6).1
        have hsb7 : StB wc sb s := (tk7.block _ hsbl (hnm _ hwsb)).trans hsb6
        have hob7 := (tk7.block _ hobl (hnm _ hb2)).trans hob6
        have tk6s : w.heap.size ≤ W6.heap.size := tk6.size
        have hus7 : ∀ u ∈ us', ∀ m, w.heap.size ≤ m → m < W6.heap.size → u.ownBlock ≠ some m := fun u hu m h1 h2 h3 => by
          rcases hus u hu m h3 with ⟨u0, h4, h5⟩ | h4
          · have := hrows u0 h4 m h5
            omega
          · omega
        have hel := ev6.own.lt
        have hrel := ev6.res.lt
        obtain ⟨g0, hg0⟩ : ∃ x, (gotK k o s).1 = x := ⟨_, rfl⟩
        obtain ⟨g1, hg1⟩ : ∃ x, (gotK k o s).2 = x := ⟨_, rfl⟩
        rw [hg0, hg1]
        obtain ⟨s', hs'⟩ : ∃ x, x = stepF o s c.length g0 g1 := ⟨_, rfl⟩
        obtain ⟨sn, hsn⟩ : ∃ x, x = sendF o s := ⟨_, rfl⟩
        obtain ⟨wh, hwh⟩ : ∃ x, x = whatF o s g1 := ⟨_, rfl⟩
        have hod : c.getD s.p.toNat (0, 0, 0) = o := by simp [List.getD, HTN.out.ho]
        have HS : Hid (Calls Tryz.prog 132 #[.slice (some ⟨ob, oo, none⟩) c.length g, .agg #[.int .i64 pn, .int .i64 (s.c 0), .int .i64 (s.c 1), .int .i64 (s.c 2), .int .i64 (s.c 3), .int .i64 (s.c 4), .int .i64 (s.c 5), .bool s.f], .int .i64 g0, .bool g1] wc fun e w' => e = .returned (.tuple #[.agg #[.int .i64 s'.p, .int .i64 (s'.c 0), .int .i64 (s'.c 1), .int .i64 (s'.c 2), .int .i64 (s'.c 3), .int .i64 (s'.c 4), .int .i64 (s'.c 5), .bool s'.f], .int .i64 sn, .int .i64 wh]) ∧ Below wc.heap.size wc w') := by
          rw [← hpn]
          refine (refstep_what c _ s g0 g1 wc (HOP.out.all (HB.out wc tk7w)) (by unfold rchk; rw [if_pos HTN.out.ck, if_pos HTN.out.st])).mono ?_
          rintro e w' ⟨⟨q, rfl, rfl⟩, hb⟩
          rw [hod]
          exact ⟨by rw [hs', hsn, hwh]; rfl, hb⟩
        have HTU : Hid (turnK p k rn = (⟨k.rooms.set rn s', linesS (linesT k o s) o sn, k.time + 1⟩, (pn : Int), cameK (linesT k o s) o sn wh)) := by
          obtain ⟨e1, e2, e3⟩ := HTN.out.at
          show _ = _
          unfold turnK
          simp only [e1, e2, e3, hg0, hg1]
          rw [hs', hsn, hwh, hpn]
        have HSN : Hid (-1 ≤ sn ∧ sn ≤ 999 ∧ (0 ≤ sn → o.1 = 8)) := by
          have := sendK_range HTN.out
          rw [← hsn] at this
          exact ⟨this.1, this.2.1, fun h => (this.2.2 h).1⟩
        clear hs' hsn hwh hod hg0 hg1
        obtain ⟨s0, s1, s2, s3, s4, s5, s6, s7⟩ := hsb7.cs
        simp only [Nat.zero_add] at s1 s2 s3 s4 s5 s6 s7
        rw [hpn] at s0
        go_upto_region 14 with (go_at_call 132; refine HS.out.mono ?_; rintro e w1 ⟨rfl, b1⟩)
        have b1w : KTouch a.m w w1 := tk7w.trans (KTouch.of b1)
        have bA : Below w1.heap.size w1 (w1.alloc (.cells #[.int .i64 s'.p, .int .i64 (s'.c 0), .int .i64 (s'.c 1), .int .i64 (s'.c 2), .int .i64 (s'.c 3), .int .i64 (s'.c 4), .int .i64 (s'.c 5), .bool s'.f] 73)) := (Below.refl _ _).alloc (Nat.le_refl _) _
        have bB := b1.trans (bA.mono b1.size)
        have D8 := D7.all bB
        have tk8 : KTouch a.m w (w1.alloc (.cells #[.int .i64 s'.p, .int .i64 (s'.c 0), .int .i64 (s'.c 1), .int .i64 (s'.c 2), .int .i64 (s'.c 3), .int .i64 (s'.c 4), .int .i64 (s'.c 5), .bool s'.f] 73)) := tk7w.trans (KTouch.of bB)
        have ev8 : Ev w (w1.alloc (.cells #[.int .i64 s'.p, .int .i64 (s'.c 0), .int .i64 (s'.c 1), .int .i64 (s'.c 2), .int .i64 (s'.c 3), .int .i64 (s'.c 4), .int .i64 (s'.c 5), .bool s'.f] 73)) e2 k.time rn pn 0 := ⟨(bB.block _ ev7.res.lt).trans ev7.res, (bB.block _ ev7.own.lt).trans ev7.own, ev7.ne, ev7.ge⟩
        have hob8 := (bB.block _ (Array.getElem?_eq_some_iff.1 hob7).1).trans hob7
        have hn8 : StB (w1.alloc (.cells #[.int .i64 s'.p, .int .i64 (s'.c 0), .int .i64 (s'.c 1), .int .i64 (s'.c 2), .int .i64 (s'.c 3), .int .i64 (s'.c 4), .int .i64 (s'.c 5), .bool s'.f] 73)) w1.heap.size s' := World.alloc_heap_new _ _
        have hw1 : w.heap.size ≤ w1.heap.size := b1w.size
        have hw6 : W6.heap.size ≤ w1.heap.size := Nat.le_trans tk7.size b1.size
        clear b1 bA bB b1w tk7w ev7 hsb7 hob7 D7 tk7 D6 tk6 ev6 hsb6 hob6 s0 s1 s2 s3 s4 s5 s6 s7 o0 o1 o2
        generalize (w1.alloc (.cells #[.int .i64 s'.p, .int .i64 (s'.c 0), .int .i64 (s'.c 1), .int .i64 (s'.c 2), .int .i64 (s'.c 3), .int .i64 (s'.c 4), .int .i64 (s'.c 5), .bool s'.f] 73)) = W8 at D8 tk8 ev8 hob8 hn8 ⊢
        generalize w1.heap.size = nb at hn8 hw1 hw6 ⊢
        obtain ⟨n0, n1, n2, n3, n4, n5, n6, n7⟩ := hn8.cs
        simp only [Nat.zero_add] at n1 n2 n3 n4 n5 n6 n7
        have k4 := D8.c4
        simp only [hrk] at k4
        obtain ⟨u0, u1, u2, u3⟩ := ev8.own.cs
        obtain ⟨s0, s1, s2, s3, s4, s5, s6, s7⟩ := D8.rooms rn s HTN.out.hs
        have hrf := D8.rf
        have f0 := hrf (rn * 8)
        have f1 := hrf (rn * 8 + 1)
        have f2 := hrf (rn * 8 + 2)
        have f3 := hrf (rn * 8 + 3)
        have f4 := hrf (rn * 8 + 4)
        have f5 := hrf (rn * 8 + 5)
        have f6' := hrf (rn * 8 + 6)
        have f7 := hrf (rn * 8 + 7)
        clear hrf
        go_cut [96] from 97 to 103 (fun s96 wx => s96 = .pointer (some ⟨a.kb, 0, none⟩) ∧ ∃ nq, wx = setSt (W8.drewN nq) a.rb (rn * 8) s')
        case first =>
          have hth : ∀ nq, (W8.drewN nq).there a.rb (rn * 8) 8 := fun nq => there_st ⟨s0, s1, s2, s3, s4, s5, s6, s7⟩ D8.rf nq
          clear s0 s1 s2 s3 s4 s5 s6 s7 f0 f1 f2 f3 f4 f5 f6' f7
          refine wp_region_quiet_last (by kernel_rfl) rfl (by decide +kernel) (by decide +kernel) ?_
          simp only [List.dropLast_cons_cons, List.dropLast_singleton]
          repeat (go_big_quiet_step (fail))
          refine wpQuiet_nil ?_
          intro _ hw'
          obtain ⟨nq, hw''⟩ := hw'
          subst hw''
          refine wp_store_mid _ _ _ rfl a.rb (rn * 8) _ rfl rfl (hth nq) rfl (by simp [Value.oneCell']) ?_
          go_wp2_with fail
          go_meet
          case rel => exact ⟨rfl, nq, rfl⟩
        case rest =>
        obtain ⟨rfl, nq, hwx⟩ := hcut
        have bN : Below W8.heap.size W8 (W8.drewN nq) := below_dN (Below.refl _ _) nq
        have D9 := (D8.all bN).room_set HTN.out.hs s'
        have tk9 : KTouch a.m W8 (setSt (W8.drewN nq) a.rb (rn * 8) s') := (KTouch.of bN).trans (setSt_touch _ (by simp [KW.m]) _ _)
        rw [← hwx] at D9 tk9
        have tk9w : KTouch a.m w wc := tk8.trans tk9
        have ev9 : Ev w wc e2 k.time rn pn 0 := ⟨(tk9.block _ ev8.res.lt (hnm _ (Nat.le_refl _))).trans ev8.res, (tk9.block _ ev8.own.lt (hnm _ ev8.ge)).trans ev8.own, ev8.ne, ev8.ge⟩
        have hob9 := (tk9.block _ (Array.getElem?_eq_some_iff.1 hob8).1 (hnm _ hb2)).trans hob8
        have hw69 : W6.heap.size ≤ wc.heap.size := by
          have h1 := tk9.size
          have h2 := (Array.getElem?_eq_some_iff.1 hn8).1
          omega
        clear hwx bN tk9 D8 tk8 ev8 hob8 hn8 n0 n1 n2 n3 n4 n5 n6 n7 k4 u0 u1 u2 u3 s0 s1 s2 s3 s4 s5 s6 s7 f0 f1 f2 f3 f4 f5 f6' f7
        have hl7 := linesT_ok hk o s
        have HL7 : Hid ((linesT k o s).length = p.wires.length ∧ (∀ (i : Nat) l x, (linesT k o s)[i]? = some l → p.wires[i]? = some x → LnOk l x) ∧ ∀ l ∈ linesT k o s, l.ls ≤ k.time + 10000000) := hl7
        clear hl7
        obtain ⟨L, hL⟩ : ∃ L, linesT k o s = L := ⟨_, rfl⟩
        rw [hL] at D9 HL7 HTU
        clear hL
        have hocs : wc.cell? ⟨b2, 0, none⟩ = some (.int .i64 o.1) ∧ wc.cell? ⟨b2, 1, none⟩ = some (.int .i64 o.2.1) ∧ wc.cell? ⟨b2, 2, none⟩ = some (.int .i64 o.2.2) := by simp [World.cell?, hob9]
        obtain ⟨o0, o1, o2⟩ := hocs
        generalize wc = W9 at *
        go_upto_region 15 with fail
        go_cut [105] from 104 to 104 (fun s105 wx => s105 = .bool (decide (0 ≤ sn)) ∧ wx = W9)
        case first =>
          go_wp2_with fail
          go_meet
          case rel => exact ⟨by simp, rfl⟩
        case rest =>
        obtain ⟨rfl, hwx⟩ := hcut
        rw [hwx]
        clear hwx
        go_step
        go_cut [13] from 105 to 117 (fun s13 wx => ∃ us2, s13 = .int .i64 (cameK L o sn wh) ∧ RK wx base p (.slice (some ⟨cb, co, none⟩) p.code.length cc) vs vw ⟨k.rooms.set rn s', linesS L o sn, k.time + 1⟩ { a with us := us2 } ∧ KTouch a.m W9 wx ∧ ∀ u ∈ us2, ∀ g, u.ownBlock = some g → OldU a g ∨ W6.heap.size ≤ g)
        case first =>
          by_cases h0 : 0 ≤ sn
          · obtain ⟨xw, hxw, _⟩ := (op_wire hp HTN.out.hc (List.mem_of_getElem? HTN.out.ho)).1 (HSN.out.2.2 h0)
            obtain ⟨bn, hbn⟩ : ∃ n : Nat, o.2.2 = n := ⟨o.2.2.toNat, by have := (ok3_range HTN.out.ok).2.2.2.2.1; omega⟩
            have hxw' : p.wires[bn]? = some xw := by rw [hbn] at hxw; simpa using hxw
            have hbl : bn < L.length := by rw [HL7.out.1]; exact (List.getElem?_eq_some_iff.1 hxw').1
            have hbi : (bn : Int) < (L.length : Int) := by omega
            obtain ⟨lb, lu, lcap, l, hl, hlb, hlu, hlv, hlc, hlp, hlm, hRl⟩ := D9.at (i := bn) hbl
            simp only at hl hlv hlc
            have hlo := HL7.out.2.1 bn l xw hl hxw'
            have hll := HL7.out.2.2 l (List.mem_of_getElem? hl)
            have hkx := wchk_kind ((wschk_ok (plchk_zero hp).2.2.2.1).2 xw (List.mem_of_getElem? hxw'))
            have hkd : l.w.2.2.1 = 1 ∨ l.w.2.2.1 = 2 := by
              rw [hlo.w]
              rcases hkx with ⟨h1, _⟩ | ⟨h1, _⟩
              · exact Or.inl h1
              · exact Or.inr h1
            have hxl : l.xs.length ≤ 1000000 := by
              rcases hkx with ⟨h1, _⟩ | ⟨h1, h2, h3⟩
              · have := hlo.one h1
                omega
              · have := hlo.deep h1
                omega
            have hgd : L.getD o.2.2.toNat LnD.none = l := by simp [hbn, List.getD, hl]
            have HG : Hid (linesS L o sn = L.set bn (putL l sn) ∧ cameK L o sn wh = if fitL l = false then 3 else wh) := by
              show _ ∧ _
              unfold linesS cameK
              rw [hgd, if_pos h0, hbn]
              refine ⟨rfl, ?_⟩
              cases fitL l <;> simp [h0]
            have hoblx := (Array.getElem?_eq_some_iff.1 hob9).1
            have k5 := D9.c5
            rw [hlv] at k5
            rw [hbn] at o2
            have HSd : Hid (∀ W, Below W9.heap.size W9 W → Calls Tryz.prog 133 #[.pointer (some ⟨lb, 0, none⟩), .int .i64 sn] W fun e w' => ∃ us2, e = .returned (.bool (fitL l)) ∧ RK w' base p (.slice (some ⟨cb, co, none⟩) p.code.length cc) vs vw ⟨k.rooms.set rn s', linesS L o sn, k.time + 1⟩ { a with us := us2 } ∧ KTouch a.m W9 w' ∧ (∀ u ∈ us2, ∀ g, u.ownBlock = some g → OldU a g ∨ W6.heap.size ≤ g) ∧ w'.cell? ⟨a.kb, 5, none⟩ = some (.slice (some ⟨a.lr, 0, none⟩) L.length lcap) ∧ w'.cell? ⟨b2, 2, none⟩ = some (.int .i64 bn) ∧ w'.cell? ⟨a.lr, bn, none⟩ = some (.pointer (some ⟨lb, 0, none⟩))) := fun W hb => by
              have hr9 := (D9.all hb).line bn l lb lu hl hlb hlu
              refine (rsend_l _ lb l lu sn W hkd ⟨hlo.ls, by omega⟩ hxl hr9).mono ?_
              rintro e w' ⟨u', rfl, h3, h4⟩
              obtain ⟨q1, q2, q3⟩ := RK.line_call D9 hb hlb hlu h4 h3 (Pd := fun g => OldU a g ∨ W6.heap.size ≤ g) hus
              refine ⟨_, rfl, by rw [HG.out.1]; exact q1, q2, fun u hu g hg => ?_, by rw [← hlv]; exact q1.c5, (World.cell?_of_block (w := W9) (a := ⟨b2, 2, none⟩) (q2.block _ hoblx (hnm _ hb2))).trans o2, q1.ptr bn lb hlb⟩
              rcases q3 u hu g hg with h5 | h5
              · exact h5
              · exact Or.inr (Nat.le_trans hw69 h5)
            have h0' : decide (0 ≤ sn) = true := decide_eq_true h0
            have HC : Hid (cameK L o sn wh = if fitL l = false then 3 else wh) := HG.out.2
            clear hl hlb hlu HG hkd hxw hxw' hRl hlv hbn hlo hll hkx hxl hgd hus
            obtain ⟨fb, hfb⟩ : ∃ b, fitL l = b := ⟨_, rfl⟩
            rw [hfb] at HSd HC
            clear hfb
            have bQ : Below W9.heap.size W9 W9.drew := (Below.refl _ _).drew
            go_upto_region 16 with fail
            go_region_held3 (fun w' => w'.cell? ⟨a.kb, 5, none⟩ = some (.slice (some ⟨a.lr, 0, none⟩) L.length lcap) ∧ w'.cell? ⟨b2, 2, none⟩ = some (.int .i64 bn) ∧ w'.cell? ⟨a.lr, bn, none⟩ = some (.pointer (some ⟨lb, 0, none⟩)))
              (first | exact ⟨k5, o2, hlp⟩ | exact hq4 | go_keep)
              (first
                | (go_at_call 133; refine (HSd.out _ bQ).mono ?_; rintro e w1 ⟨us2, rfl, hq1, hq2, hq3, hq4⟩))
            cases fb with
            | true =>
              go_wp2_with fail
              go_meet
              case rel => exact ⟨us2, by rw [HC.out]; rfl, hq1, hq2, hq3⟩
            | false =>
              go_wp2_with fail
              go_meet
              case rel => exact ⟨us2, by rw [HC.out]; rfl, hq1, hq2, hq3⟩
          · have h0' : decide (0 ≤ sn) = false := decide_eq_false h0
            have HX : Hid (linesS L o sn = L ∧ cameK L o sn wh = wh) := by
              show _ ∧ _
              unfold linesS cameK
              rw [if_neg h0, if_neg (fun h => h0 h.1)]
              exact ⟨rfl, rfl⟩
            go_wp2_with fail
            go_meet
            case rel => exact ⟨us', by rw [HX.out.2], by rw [HX.out.1]; exact D9, KTouch.refl _ _, hus⟩
        case rest =>
        obtain ⟨us2, rfl, D10, tk10, hus2⟩ := hcut
        have ev10 : Ev w wc e2 k.time rn pn 0 := ⟨(tk10.block _ ev9.res.lt (hnm _ (Nat.le_refl _))).trans ev9.res, (tk10.block _ ev9.own.lt (hnm _ ev9.ge)).trans ev9.own, ev9.ne, ev9.ge⟩
        have tk10w : KTouch a.m w wc := tk9w.trans tk10
        obtain ⟨u0, u1, u2, u3⟩ := ev10.own.cs
        obtain ⟨y0, y1, y2, y3⟩ := ev10.own.fs
        obtain ⟨v0, v1, v2, v3⟩ := ev10.res.cs
        obtain ⟨x0, x1, x2, x3⟩ := ev10.res.fs
        have hen : e2 ≠ w.heap.size := ev10.ne
        have HTE : Hid (tickK p sp k = (⟨k.rooms.set rn s', linesS L o sn, k.time + 1⟩, k.time, (rn : Int), (pn : Int), cameK L o sn wh)) := by
          show _ = _
          rw [HT.out, HTU.out]
        go_wp2_with fail
        have tkE : KTouch [e2, w.heap.size] wc (((((wc.setCell ⟨e2, 3, none⟩ (.int .i64 (cameK L o sn wh))).setCell ⟨w.heap.size, 0, none⟩ (.int .i64 k.time)).setCell ⟨w.heap.size, 1, none⟩ (.int .i64 rn)).setCell ⟨w.heap.size, 2, none⟩ (.int .i64 pn)).setCell ⟨w.heap.size, 3, none⟩ (.int .i64 (cameK L o sn wh))) := ((((KTouch.set wc (by simp) 3 _).trans (KTouch.set _ (by simp) 0 _)).trans (KTouch.set _ (by simp) 1 _)).trans (KTouch.set _ (by simp) 2 _)).trans (KTouch.set _ (by simp) 3 _)
        have hge := ev10.ge
        have hM : ∀ m ∈ [e2, w.heap.size], w.heap.size ≤ m ∧ m < W6.heap.size := fun m hm => by
          rcases List.mem_cons.1 hm with rfl | hm
          · exact ⟨hge, hel⟩
          · rw [List.mem_singleton] at hm
            subst hm
            exact ⟨Nat.le_refl _, hrel⟩
        refine bodyPost_ret (v := .agg #[.int .i64 k.time, .int .i64 rn, .int .i64 pn, .int .i64 (cameK L o sn wh)]) ?_ rfl ⟨by rw [HTE.out], ⟨us2, ?_, fun u hu g hg => (hus2 u hu g hg).imp id (fun h => Nat.le_trans tk6s h)⟩, tk10w.more tkE (fun m hm => (hM m hm).1)⟩
        · simp [results, Tryz.results91, go_sem, v0, v1, v2, v3]
        · rw [HTE.out, ← hw00]
          exact D10.touch tkE (fun m hm => ⟨Nat.le_trans hb1w (hM m hm).1, fun u hu hg => by
            have h2 := hM m hm
            rcases hus2 u hu m hg with ⟨u0, h4, h5⟩ | h4
            · have := hrows u0 h4 m h5
              omega
            · omega⟩)
end Go.Proofs.YtajfgmlockjmhaiGreatDoor
