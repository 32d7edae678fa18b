/-
  Package kernel: a tick.
-/
import Derived.Test.YtajfgmlockjmhaiGreatDoorJt20
import Derived.Test.YtajfgmlockjmhaiGreatDoorJt2
import Derived.Test.YtajfgmlockjmhaiGreatDoorJt3
namespace Go.Proofs.YtajfgmlockjmhaiGreatDoor
open Go.RowKit

set_option maxRecDepth 100000 in
set_option maxHeartbeats 8000000 in
theorem gtick_any (p : PD) (k : KD) (kb base : Nat) (a : GW) (w : World) (hfm : Forms w) (h : GK w base p k kb a) (hbw : base ≤ w.heap.size) (hp : plchk p = 0) (hk : KOk p k) (ht : k.time < 100000000) :
    Calls Tryz.prog 12 #[.pointer (some ⟨kb, 0, none⟩)] w fun e w' => e = .returned (evA (tickK p p.spans k).2) ∧ ∃ a', GK w' base p (tickK p p.spans k).1 kb a' ∧ KTouch (a.F kb) w w' ∧ ∀ g ∈ a'.F kb, g ∈ a.F kb ∨ w.heap.size ≤ g := by
  have hkb := h.lt.1
  have hw0 : Below w.heap.size w (w.alloc (.cells #[.int .i64 0, .int .i64 0, .int .i64 0, .int .i64 0] 39)) := (Below.refl _ w).alloc (Nat.le_refl _) _
  have H : Hid (GK w base p k kb a) := h
  have hti := hk.time
  have HWho : Hid (∀ W, Below w.heap.size w W → Calls Tryz.prog 45 #[.pointer (some ⟨kb, 0, none⟩)] W fun e w' => e = .returned (.int .i64 (hold p.spans (k.time % p.ticks))) ∧ Below W.heap.size W w') := fun W hb => gturn_any p k kb base a W (H.out.all hb) hp hti
  have HF : Hid (∀ g ∈ a.F kb, g < w.heap.size) := h.flt
  have hwr := who_room hp (k.time % p.ticks)
  have c5 := h.c5
  obtain ⟨r, hr⟩ : ∃ r, r = hold p.spans (k.time % p.ticks) := ⟨_, rfl⟩
  rw [← hr] at HWho hwr
  have HR : Hid (r = hold p.spans (k.time % p.ticks)) := hr
  clear hr h
  go_enter Tryz.func12, Tryz.ntmps12
  go_upto_region 1 with fail
  go_cut [3] from 4 to 10 (fun s3 wx => ∃ e2, s3 = .pointer (some ⟨e2, 0, none⟩) ∧ Ev w wx e2 k.time r 0 0 ∧ Below w.heap.size w wx)
  case first =>
    have hc1 : ∀ W, Below w.heap.size w W → W.cell? ⟨kb, 5, none⟩ = some (.int .i64 k.time) := fun W hb => (hb.cell (p := ⟨kb, 5, none⟩) hkb).trans c5
    have hn6 := World.new_ne w ⟨kb, 5, none⟩ c5
    have hA : Below w.heap.size w (w.alloc (.cells #[.int .i64 0, .int .i64 0, .int .i64 0, .int .i64 0] 39)).drew := hw0.drew
    have hA2 : Below w.heap.size w (((w.alloc (.cells #[.int .i64 0, .int .i64 0, .int .i64 0, .int .i64 0] 39)).alloc (.cells #[.int .i64 0, .int .i64 0, .int .i64 0, .int .i64 0] 39)).drew) := (hw0.alloc (by simp) _).drew
    go_region_held3 (fun w' => w'.cell? ⟨kb, 5, none⟩ = some (.int .i64 k.time))
      (first | exact hc1 _ hA | exact hc1 _ hA2 | exact hc1 _ hB1 | exact hc1 _ hB2 | exact hc1 _ (hB1.alloc hB1.size _) | exact hc1 _ ((((hB2.setCell (p := ⟨w.heap.size + 1, 0, none⟩) (by simp) _).setCell (p := ⟨w.heap.size + 1, 1, none⟩) (by simp) _).setCell (p := ⟨w.heap.size + 1, 2, none⟩) (by simp) _).setCell (p := ⟨w.heap.size + 1, 3, none⟩) (by simp) _) | go_keep)
      (first
        | (go_at_call 45; refine (HWho.out _ hA).mono ?_; rintro e w1 ⟨rfl, b1⟩; have hB1 : Below w.heap.size w w1 := hA.trans (b1.mono (by simp)))
        | (go_at_call 45; refine (HWho.out _ hA2).mono ?_; rintro e w1 ⟨rfl, b1⟩; have hB2 : Below w.heap.size w w1 := hA2.trans (b1.mono (by simp; omega)); obtain ⟨⟨z0, z1, z2, z3⟩, y0, y1, y2, y3⟩ := ev_box (w := w) b1))
    · go_wp2_with fail
      go_meet
      case rel =>
        refine ⟨w1.heap.size, rfl, ⟨?_, ?_, ?_, ?_⟩, hB1.alloc hB1.size _⟩
        · exact (Below.heap_alloc _ _ _ (by have := b1.size; simp at this; omega)).trans ((b1.block _ (by simp)).trans (World.alloc_heap_new w _))
        · exact World.alloc_heap_new w1 _
        · have := b1.size
          simp at this
          omega
        · exact hB1.size
    · go_wp2_with fail
      go_meet
      case rel =>
        refine ⟨w.heap.size + 1, rfl, ⟨?_, ?_, by omega, by omega⟩, ?_⟩
        · show (((((w1.setCell _ _).setCell _ _).setCell _ _).setCell _ _).heap[w.heap.size]?) = _
          rw [Below.heap_setCell _ _ _ _ (show w.heap.size ≠ w.heap.size + 1 by omega), Below.heap_setCell _ _ _ _ (show w.heap.size ≠ w.heap.size + 1 by omega), Below.heap_setCell _ _ _ _ (show w.heap.size ≠ w.heap.size + 1 by omega), Below.heap_setCell _ _ _ _ (show w.heap.size ≠ w.heap.size + 1 by omega)]
          exact (b1.block _ (by simp; omega)).trans ((Below.heap_alloc _ _ _ (by simp)).trans (World.alloc_heap_new w _))
        · have hb : EvB w1 (w.heap.size + 1) 0 0 0 0 := (b1.block _ (by simp)).trans (by
            have := World.alloc_heap_new (w.alloc (.cells #[.int .i64 0, .int .i64 0, .int .i64 0, .int .i64 0] 39)) (.cells #[.int .i64 0, .int .i64 0, .int .i64 0, .int .i64 0] 39)
            rw [World.size_alloc] at this
            exact this)
          exact hb.set _ _ _ _
        · exact (((hB2.setCell (p := ⟨w.heap.size + 1, 0, none⟩) (by simp) _).setCell (p := ⟨w.heap.size + 1, 1, none⟩) (by simp) _).setCell (p := ⟨w.heap.size + 1, 2, none⟩) (by simp) _).setCell (p := ⟨w.heap.size + 1, 3, none⟩) (by simp) _
  case rest =>
  obtain ⟨e2, rfl, hev, hbc⟩ := hcut
  have D1 := H.out.all hbc
  clear c5 hw0 HWho
  obtain ⟨u0, u1, u2, u3⟩ := hev.own.cs
  have hadd : k.time + 1 ≤ 9223372036854775807 := by omega
  have hnf : ∀ m, w.heap.size ≤ m → m ∉ a.F kb := fun m h1 h2 => by have := HF.out m h2; omega
  by_cases hr0 : r < 0
  · obtain rfl : r = -1 := by omega
    have HT : Hid (tickK p p.spans k = (⟨k.rooms, k.lines, k.time + 1⟩, k.time, -1, 0, 0)) := by
      show _ = _
      unfold tickK
      simp only
      rw [← HR.out, if_pos (by decide)]
    have k5 := D1.c5
    have j5 := D1.f5
    have hne2 : e2 ≠ kb := by have := hev.ge; omega
    have hnew : w.heap.size ≠ kb := by omega
    obtain ⟨v0, v1, v2, v3⟩ := hev.res.cs
    obtain ⟨x0, x1, x2, x3⟩ := hev.res.fs
    have hne := hev.ne
    go_wp2
    have tk1 : KTouch (a.F kb) w (wc.setCell ⟨kb, 5, none⟩ (.int .i64 (k.time + 1))) := (KTouch.of hbc).trans (KTouch.set wc (by simp [GW.F]) 5 _)
    have D2 := D1.time (k.time + 1)
    generalize hW : wc.setCell ⟨kb, 5, none⟩ (.int .i64 (k.time + 1)) = W3 at tk1 D2 ⊢
    have tkE : KTouch [w.heap.size] W3 ((((W3.setCell ⟨w.heap.size, 0, none⟩ (.int .i64 k.time)).setCell ⟨w.heap.size, 1, none⟩ (.int .i64 (-1))).setCell ⟨w.heap.size, 2, none⟩ (.int .i64 0)).setCell ⟨w.heap.size, 3, none⟩ (.int .i64 0)) := (((KTouch.set W3 (by simp) 0 _).trans (KTouch.set _ (by simp) 1 _)).trans (KTouch.set _ (by simp) 2 _)).trans (KTouch.set _ (by simp) 3 _)
    refine bodyPost_ret (v := .agg #[.int .i64 k.time, .int .i64 (-1), .int .i64 0, .int .i64 0]) ?_ rfl ⟨by rw [HT.out]; rfl, a, ?_, tk1.more tkE (by simp), fun g hg => Or.inl hg⟩
    · rw [← hW]
      simp [results, Tryz.results12, go_sem, v0, v1, v2, v3]
    · rw [HT.out]
      exact D2.frame tkE (fun m hm => by rw [List.mem_singleton] at hm; subst hm; exact hnf _ (Nat.le_refl _))
  · obtain ⟨rn, rfl⟩ : ∃ n : Nat, r = n := ⟨r.toNat, by omega⟩
    have hrl : rn < p.code.length := by have := hwr.2 (by omega); simpa using this
    have HT : Hid (tickK p p.spans k = ((turnK p k rn).1, k.time, (rn : Int), (turnK p k rn).2.1, (turnK p k rn).2.2)) := by
      show _ = _
      unfold tickK
      simp only
      rw [← HR.out, if_neg (by omega), Int.toNat_natCast]
    obtain ⟨c, s, o, htn⟩ := turn_of hp hk hrl
    have hat : (turnK p k rn).2.1 = s.p := by
      unfold turnK
      simp only [htn.at.2.1]
    have htm : (turnK p k rn).1.time = k.time + 1 := rfl
    have hrk : k.rooms.length = p.code.length := hk.rl
    have hri : (rn : Int) < (p.code.length : Int) := by omega
    have k3 := D1.c3
    rw [hrk] at k3
    obtain ⟨s0, _⟩ := D1.rooms rn s htn.hs
    have hne1 : ((rn : Int) != -1) = true := by simp
    have hne1' : ((rn : Int) == -1) = false := by simp
    obtain ⟨y0, y1, y2, y3⟩ := hev.own.fs
    generalize wc = W1 at *
    go_upto_region 3 with fail
    go_cut [14] from 14 to 23 (fun _ wx => ∃ nq, wx = (W1.drewN nq).setCell ⟨e2, 2, none⟩ (.int .i64 s.p))
    case first =>
      refine wp_region_quiet_last (by kernel_rfl) rfl (by decide +kernel) (by decide +kernel) ?_
      simp only [List.dropLast_cons_cons, List.dropLast_singleton]
      repeat (go_big_quiet_step (fail))
      refine wpQuiet_nil ?_
      intro _ hw'
      obtain ⟨nq, hw''⟩ := hw'
      subst hw''
      have u2' : (W1.drewN nq).cell? ⟨e2, 2, none⟩ = some (.int .i64 0) := by simpa using u2
      have y2' : (W1.drewN nq).frozen? ⟨e2, 2, none⟩ = false := by simpa using y2
      go_simp
      go_wp2_with fail
      go_meet
      case rel => exact ⟨nq, rfl⟩
    case rest =>
    obtain ⟨nq, hwx⟩ := hcut
    have bN : Below W1.heap.size W1 (W1.drewN nq) := below_dN (Below.refl _ _) nq
    have tk2 : KTouch [e2] W1 wc := by
      rw [hwx]
      exact (KTouch.of bN).trans (KTouch.set _ (by simp) 2 _)
    have D2 := D1.frame tk2 (fun m hm => by rw [List.mem_singleton] at hm; subst hm; exact hnf _ hev.ge)
    have ev2 : Ev w wc e2 k.time rn s.p 0 := by
      refine ⟨(tk2.block _ hev.res.lt (by simpa using Ne.symm hev.ne)).trans hev.res, ?_, hev.ne, hev.ge⟩
      rw [hwx]
      exact EvB.at ((bN.block _ hev.own.lt).trans hev.own) s.p
    have tkw : KTouch [e2] w wc := (KTouch.of hbc).trans tk2
    have hb2 : Below w.heap.size w wc := tkw.below (fun b hb => by rw [List.mem_singleton] at hb; subst hb; exact hev.ge) (Nat.le_refl _)
    have HS : Hid (Calls Tryz.prog 46 #[.pointer (some ⟨kb, 0, none⟩), .int .i64 rn] wc fun e w' => e = .returned (.int .i64 (turnK p k rn).2.2) ∧ ∃ a', GK w' base p ⟨(turnK p k rn).1.rooms, (turnK p k rn).1.lines, k.time⟩ kb a' ∧ KTouch (a.F kb) wc w' ∧ ∀ g ∈ a'.F kb, g ∈ a.F kb ∨ wc.heap.size ≤ g) := gstep_any p k kb base a rn wc (hfm.all hb2) D2 (Nat.le_trans hbw hb2.size) hp hk ht hrl
    have HTK : Hid ((tickK p p.spans k).2 = (k.time, (rn : Int), s.p, (turnK p k rn).2.2) ∧ (tickK p p.spans k).1 = ⟨(turnK p k rn).1.rooms, (turnK p k rn).1.lines, k.time + 1⟩) := by
      refine ⟨?_, ?_⟩
      · rw [HT.out, hat]
      · rw [HT.out]
        rfl
    clear hwx bN tk2 tkw u0 u1 u2 u3 y0 y1 y2 y3 k3 s0 D1 D2 hbc hev HT hat htm htn
    generalize (turnK p k rn).2.2 = qv at HS HTK
    generalize (turnK p k rn).1.rooms = rs at HS HTK
    generalize (turnK p k rn).1.lines = ls at HS HTK
    obtain ⟨u0, u1, u2, u3⟩ := ev2.own.cs
    generalize wc = W2 at *
    go_upto_region 5 with (go_at_call 46; refine HS.out.mono ?_; rintro e w3 ⟨rfl, a', hq1, hq2, hq3⟩; have ev3 : Ev w w3 e2 k.time rn s.p 0 := ⟨(hq2.block _ ev2.res.lt (hnf _ (Nat.le_refl _))).trans ev2.res, (hq2.block _ ev2.own.lt (hnf _ ev2.ge)).trans ev2.own, ev2.ne, ev2.ge⟩; obtain ⟨v0, v1, v2, v3⟩ := ev3.own.cs; obtain ⟨y0, y1, y2, y3⟩ := ev3.own.fs)
    have tk4 : KTouch [e2] w3 (w3.setCell ⟨e2, 3, none⟩ (.int .i64 qv)) := KTouch.set w3 (by simp) 3 _
    have hnf' : ∀ m, w.heap.size ≤ m → m < W2.heap.size → m ∉ a'.F kb := fun m h1 h2 h3 => by
      rcases hq3 m h3 with h4 | h4
      · exact hnf m h1 h4
      · omega
    have D4 := hq1.frame tk4 (fun m hm => by rw [List.mem_singleton] at hm; subst hm; exact hnf' _ ev2.ge ev2.own.lt)
    have ev4 : Ev w (w3.setCell ⟨e2, 3, none⟩ (.int .i64 qv)) e2 k.time rn s.p qv := ⟨(tk4.block _ ev3.res.lt (by simpa using Ne.symm ev3.ne)).trans ev3.res, ev3.own.what qv, ev3.ne, ev3.ge⟩
    have tkw4 : KTouch (a.F kb) w (w3.setCell ⟨e2, 3, none⟩ (.int .i64 qv)) := ((KTouch.of hb2).trans hq2).more tk4 (by simpa using ev3.ge)
    clear v0 v1 v2 v3 y0 y1 y2 y3 u0 u1 u2 u3 hq1 tk4 ev3
    generalize w3.setCell ⟨e2, 3, none⟩ (.int .i64 qv) = W4 at D4 ev4 tkw4 ⊢
    have k5 := D4.c5
    have j5 := D4.f5
    have hne2 : e2 ≠ kb := by have := ev4.ge; omega
    have hnew : w.heap.size ≠ kb := by omega
    obtain ⟨u0, u1, u2, u3⟩ := ev4.own.cs
    obtain ⟨v0, v1, v2, v3⟩ := ev4.res.cs
    obtain ⟨x0, x1, x2, x3⟩ := ev4.res.fs
    have hne := ev4.ne
    go_wp2
    have hkm : kb ∈ a.F kb := by simp [GW.F]
    have tk5 : KTouch (a.F kb) w (W4.setCell ⟨kb, 5, none⟩ (.int .i64 (k.time + 1))) := tkw4.trans (KTouch.set W4 hkm 5 _)
    have D5 := D4.time (k.time + 1)
    generalize hW : W4.setCell ⟨kb, 5, none⟩ (.int .i64 (k.time + 1)) = W5 at tk5 D5 ⊢
    have tkE : KTouch [w.heap.size] W5 ((((W5.setCell ⟨w.heap.size, 0, none⟩ (.int .i64 k.time)).setCell ⟨w.heap.size, 1, none⟩ (.int .i64 rn)).setCell ⟨w.heap.size, 2, none⟩ (.int .i64 s.p)).setCell ⟨w.heap.size, 3, none⟩ (.int .i64 qv)) := (((KTouch.set W5 (by simp) 0 _).trans (KTouch.set _ (by simp) 1 _)).trans (KTouch.set _ (by simp) 2 _)).trans (KTouch.set _ (by simp) 3 _)
    refine bodyPost_ret (v := .agg #[.int .i64 k.time, .int .i64 rn, .int .i64 s.p, .int .i64 qv]) ?_ rfl ⟨by rw [HTK.out.1]; rfl, a', ?_, tk5.more tkE (by simp), fun g hg => (hq3 g hg).imp id (fun h => Nat.le_trans hb2.size h)⟩
    · rw [← hW]
      simp [results, Tryz.results12, go_sem, v0, v1, v2, v3]
    · rw [HTK.out.2]
      exact D5.frame tkE (fun m hm => by rw [List.mem_singleton] at hm; subst hm; exact hnf' _ (Nat.le_refl _) ev2.res.lt)
end Go.Proofs.YtajfgmlockjmhaiGreatDoor
