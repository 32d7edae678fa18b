/-
  Package tables: count, a tick.
-/
import Derived.Test.YteejpehfmnjgfafDoorJb7
import Derived.Test.YteejpehfmnjgfafDoorJb6
namespace Go.Proofs.YteejpehfmnjgfafDoor
open Go.RowKit

theorem listN_at {ls : List (List S3)} {n : Nat} {l : List S3} (h : ls[n]? = some l) : listN ls n = l := by
  unfold listN
  simp [List.getD, h]
set_option maxRecDepth 100000 in
set_option maxHeartbeats 8000000 in
theorem tbcount_any (p : PD) (ls : List (List S3)) (d : TbD) (cb base : Nat) (x : TW) (n : Nat) (w : World) (h : GT w base p ls d cb x) (hbw : base ≤ w.heap.size) (hz : tabE p ls = 0) (hok : TOk p ls d) (hn : n < ls.length) :
    Calls Tryd.prog 48 #[.pointer (some ⟨cb, 0, none⟩), .int .i64 (n : Nat)] w fun e w' => (∃ v, e = .returned v) ∧ ∃ a', GT w' base p ls ⟨d.k, n, d.next⟩ cb { x with a := a' } ∧ KTouch (x.F cb) w w' ∧ ∀ g ∈ a'.F x.kb, g ∈ x.a.F x.kb ∨ w.heap.size ≤ g := by
  have c0 := h.c0
  have c3 := h.c3
  have H : Hid (GT w base p ls d cb x) := h
  by_cases hnow : n = d.now
  · subst hnow
    have hq : ((d.now : Int) != (d.now : Int)) = false := by simp
    have hq2 : ((d.now : Int) == (d.now : Int)) = true := by simp
    clear h hok hz hn c0
    go_enter Tryd.func48, Tryd.ntmps48
    go_upto_region 0 with fail
    go_quiet (fail)
    go_wp2_with fail
    first | go_end0 | ((try simp only [Exit.inBlock, Exit.then]); refine bodyPost_ret (results_none rfl _ _ _) rfl ?_)
    exact ⟨⟨_, rfl⟩, x.a, H.out.all (below_dN (Below.refl _ _) _), KTouch.of (below_dN (Below.refl _ _) _), fun g hg => Or.inl hg⟩
  · have hneI : (n : Int) ≠ (d.now : Int) := by omega
    have hq : ((n : Int) != (d.now : Int)) = true := bne_iff_ne.2 hneI
    have hq2 : ((n : Int) == (d.now : Int)) = false := beq_eq_false_iff_ne.2 hneI
    have hq3 : (n != d.now) = true := bne_iff_ne.2 hnow
    have hq4 : (n == d.now) = false := beq_eq_false_iff_ne.2 hnow
    have hni : (n : Int) < (ls.length : Int) := by omega
    have hspl := h.lists.here
    obtain ⟨ao, cap, hlv⟩ := hspl.form
    rw [hlv] at hspl
    obtain ⟨b, off, u, g, l, rfl, hblt, hl, hcell, hsps⟩ := hspl.at hn
    have hln := listN_at hl
    have hkm : x.kb ∈ x.a.F x.kb := by simp [GW.F]
    have hbk : b ≠ x.kb := fun e => h.ap.2.2 b (h.lb b off _ _ hlv) (by rw [e]; exact hkm)
    have hck : cb ≠ x.kb := fun e => h.ap.2.1 (by rw [e]; exact hkm)
    have c2 := h.c2
    rw [hlv] at c2
    have hcl := h.lt.1
    have hpz : plchk (withS p l) = 0 := (tabE_zero hz).2.2 _ (List.mem_of_getElem? hl)
    have bD : Below w.heap.size w w.drew := (Below.refl _ _).drew
    have HU : Hid (Calls Tryd.prog 73 #[.pointer (some ⟨x.kb, 0, none⟩), .slice u l.length g] w.drew fun e w' => e = .returned .nilIface ∧ ∃ a', GK w' base (withS p l) d.k x.kb a' ∧ KTouch [x.kb] w.drew w' ∧ ∀ g ∈ a'.F x.kb, g ∈ x.a.F x.kb ∨ w.drew.heap.size ≤ g) := guse_ok (withS p (listN ls d.now)) d.k x.kb base x.a l _ w.drew (h.k.all bD) hbw (hsps.all bD) hpz (hok.k.withS _)
    have HLN : Hid (listN ls n = l) := hln
    have hS : ∀ W, KTouch [x.kb] w W → W.cell? ⟨cb, 0, none⟩ = some (.pointer (some ⟨x.kb, 0, none⟩)) ∧ W.cell? ⟨cb, 2, none⟩ = some (.slice (some ⟨b, off, none⟩) ls.length cap) ∧ W.cell? ⟨cb, 3, none⟩ = some (.int .i64 (d.now : Nat)) ∧ W.cell? ⟨b, off + n, none⟩ = some (.slice u l.length g) := fun W ht => by
      have b1 := ht.block cb hcl (by simpa using hck)
      have b2 := ht.block b hblt (by simpa using hbk)
      exact ⟨(World.cell?_of_block (w := w) (a := ⟨cb, 0, none⟩) b1).trans c0, (World.cell?_of_block (w := w) (a := ⟨cb, 2, none⟩) b1).trans c2, (World.cell?_of_block (w := w) (a := ⟨cb, 3, none⟩) b1).trans c3, (World.cell?_of_block (w := w) (a := ⟨b, off + n, none⟩) b2).trans hcell⟩
    have HS : Hid (∀ W, KTouch [x.kb] w W → W.cell? ⟨cb, 0, none⟩ = some (.pointer (some ⟨x.kb, 0, none⟩)) ∧ W.cell? ⟨cb, 2, none⟩ = some (.slice (some ⟨b, off, none⟩) ls.length cap) ∧ W.cell? ⟨cb, 3, none⟩ = some (.int .i64 (d.now : Nat)) ∧ W.cell? ⟨b, off + n, none⟩ = some (.slice u l.length g)) := hS
    have S0 := HS.out w.drew (KTouch.of bD)
    clear h hok hz hspl hl hln hsps hpz hS hbk hlv hnow hneI
    go_enter Tryd.func48, Tryd.ntmps48
    go_upto_region 0 with fail
    go_cut [24] from 4 to 23 (fun s24 wx => s24 = .bool true ∧ ∃ a', GK wx base (withS p l) d.k x.kb a' ∧ KTouch [x.kb] w wx ∧ ∀ g ∈ a'.F x.kb, g ∈ x.a.F x.kb ∨ w.heap.size ≤ g)
    case first =>
      go_region_held3 (fun W => W.cell? ⟨cb, 0, none⟩ = some (.pointer (some ⟨x.kb, 0, none⟩)) ∧ W.cell? ⟨cb, 2, none⟩ = some (.slice (some ⟨b, off, none⟩) ls.length cap) ∧ W.cell? ⟨cb, 3, none⟩ = some (.int .i64 (d.now : Nat)) ∧ W.cell? ⟨b, off + n, none⟩ = some (.slice u l.length g))
        (first | exact S0 | exact S1 | go_keep)
        (first
          | (go_at_call 73; refine HU.out.mono ?_; rintro e w1 ⟨rfl, a', hg1, tk1, hn1⟩; have tk0 : KTouch [x.kb] w w1 := (KTouch.of bD).trans tk1; have S1 := HS.out w1 tk0))
      go_wp2_with fail
      go_meet
      case rel => exact ⟨rfl, a', hg1, tk0, hn1⟩
    case rest =>
    obtain ⟨rfl, a', hg1, tk0, hn1⟩ := hcut
    have hblk := tk0.block cb hcl (by simpa using hck)
    have k3 := (World.cell?_of_block (w := w) (a := ⟨cb, 3, none⟩) hblk).trans c3
    have g3 := (World.frozen?_of_block (w := w) (a := ⟨cb, 3, none⟩) hblk).trans H.out.f3
    have D : GT (wc.setCell ⟨cb, 3, none⟩ (.int .i64 (n : Nat))) base p ls ⟨d.k, n, d.next⟩ cb { x with a := a' } := H.out.count tk0 (by rw [HLN.out]; exact hg1) hn1
    have tkE : KTouch (x.F cb) w (wc.setCell ⟨cb, 3, none⟩ (.int .i64 (n : Nat))) := (tk0.mono (fun m hm => by rw [List.mem_singleton] at hm; subst hm; exact TW.mem2 hkm)).trans (KTouch.set _ (x.mem0 cb) _ _)
    clear hg1 tk0 c0 c2 c3 hcell S0 HU HS
    go_step
    go_wp2_with fail
    first | go_end0 | ((try simp only [Exit.inBlock, Exit.then]); refine bodyPost_ret (results_none rfl _ _ _) rfl ?_)
    exact ⟨⟨_, rfl⟩, a', D, tkE, hn1⟩
set_option maxRecDepth 100000 in
set_option maxHeartbeats 8000000 in
theorem tbtick_any (p : PD) (ls : List (List S3)) (d : TbD) (cb base : Nat) (x : TW) (w : World) (h : GT w base p ls d cb x) (hbw : base ≤ w.heap.size) (hfb : ∀ W, Below base w W → Forms W) (hz : tabE p ls = 0) (hok : TOk p ls d) (ht : d.k.time < 100000000) :
    Calls Tryd.prog 23 #[.pointer (some ⟨cb, 0, none⟩)] w fun e w' => e = .returned (evA (evT p ls d)) ∧ ∃ x', GT w' base p ls (tickT p ls d) cb x' ∧ KTouch (x.F cb) w w' ∧ ∀ g ∈ x'.F cb, g ∈ x.F cb ∨ w.heap.size ≤ g := by
  have hp := spanT_right hz hok
  obtain ⟨hn0, hn1, _⟩ := fchk_zero (plchk_zero hp).2.2.1
  have hlt := countT_lt hok
  have hB1 : Below w.heap.size w (w.alloc (.cells #[.int .i64 0, .int .i64 0, .int .i64 0, .int .i64 0] 45)) := (Below.refl _ w).alloc (Nat.le_refl _) _
  have hbox : EvB (w.alloc (.cells #[.int .i64 0, .int .i64 0, .int .i64 0, .int .i64 0] 45)) w.heap.size 0 0 0 0 := World.alloc_heap_new w _
  generalize hW1 : w.alloc (.cells #[.int .i64 0, .int .i64 0, .int .i64 0, .int .i64 0] 45) = W1 at hB1 hbox
  obtain ⟨t1, ht1⟩ : ∃ y, (evT p ls d).1 = y := ⟨_, rfl⟩
  obtain ⟨t2, ht2⟩ : ∃ y, (evT p ls d).2.1 = y := ⟨_, rfl⟩
  obtain ⟨t3, ht3⟩ : ∃ y, (evT p ls d).2.2.1 = y := ⟨_, rfl⟩
  obtain ⟨t4, ht4⟩ : ∃ y, (evT p ls d).2.2.2 = y := ⟨_, rfl⟩
  have hgo : evA (evT p ls d) = .agg #[.int .i64 t1, .int .i64 t2, .int .i64 t3, .int .i64 t4] := by
    unfold evA
    rw [ht1, ht2, ht3, ht4]
  have hek : evA (tickK (withS p (spanT p ls d)) (withS p (spanT p ls d)).spans d.k).2 = .agg #[.int .i64 t1, .int .i64 t2, .int .i64 t3, .int .i64 t4] := hgo
  rw [hgo]
  have D1 := h.all hB1
  have HN : Hid (Calls Tryd.prog 25 #[.pointer (some ⟨cb, 0, none⟩)] W1 fun e w' => e = .returned (.int .i64 (countT p d : Nat)) ∧ Below W1.heap.size W1 w') := tbnow_any p ls d cb base x W1 D1 hn0 hn1 hok.k.time
  have HC : Hid (∀ W, Below w.heap.size w W → Calls Tryd.prog 48 #[.pointer (some ⟨cb, 0, none⟩), .int .i64 (countT p d : Nat)] W fun e w' => (∃ v, e = .returned v) ∧ ∃ a', GT w' base p ls ⟨d.k, countT p d, d.next⟩ cb { x with a := a' } ∧ KTouch (x.F cb) W w' ∧ ∀ g ∈ a'.F x.kb, g ∈ x.a.F x.kb ∨ W.heap.size ≤ g) := fun W hb => tbcount_any p ls d cb base x _ W (h.all hb) (Nat.le_trans hbw hb.size) hz hok hlt
  have HK : Hid (∀ W a', KTouch (x.F cb) w W → GT W base p ls ⟨d.k, countT p d, d.next⟩ cb { x with a := a' } → Calls Tryd.prog 20 #[.pointer (some ⟨x.kb, 0, none⟩)] W fun e w' => e = .returned (.agg #[.int .i64 t1, .int .i64 t2, .int .i64 t3, .int .i64 t4]) ∧ ∃ a2, GT w' base p ls (tickT p ls d) cb { x with a := a2 } ∧ KTouch (a'.F x.kb) W w' ∧ ∀ g ∈ a2.F x.kb, g ∈ a'.F x.kb ∨ W.heap.size ≤ g) := fun W a' hb hg => by
    have q := gtick_any (withS p (spanT p ls d)) d.k x.kb base a' W (hfb W (hb.below h.fge hbw)) hg.k (Nat.le_trans hbw hb.size) hp (hok.k.withS _) ht
    refine q.mono ?_
    rintro e w' ⟨rfl, a2, h1, h2, h3⟩
    exact ⟨by rw [hek], a2, hg.kern h2 h1 h3, h2, h3⟩
  have HF : Hid (∀ g ∈ x.F cb, g < w.heap.size) := h.flt
  have HD1 : Hid (GT W1 base p ls d cb x) := D1
  clear h hok hz D1 hgo hek ht1 ht2 ht3 ht4 hfb hp hn0 hn1
  generalize countT p d = n at *
  go_enter Tryd.func23, Tryd.ntmps23
  go_upto_region 1 with fail
  have hs1 : W1.heap.size = w.heap.size + 1 := by rw [← hW1]; simp
  clear hW1
  go_upto_region 2 with (first
    | (go_at_call 25; refine HN.out.mono ?_; rintro e w1 ⟨rfl, b1⟩; have hB2 := hB1.trans (b1.mono hB1.size); have hx1 : EvB w1 w.heap.size 0 0 0 0 := (b1.block _ hbox.lt).trans hbox)
    | (go_at_call 48; refine (HC.out w1 hB2).mono ?_; rintro e w2 ⟨⟨v, rfl⟩, a1, hg2, tk2, hn2⟩))
  have hnf : w.heap.size ∉ x.F cb := fun hm => by have := HF.out _ hm; omega
  have hx2 : EvB w2 w.heap.size 0 0 0 0 := (tk2.block _ hx1.lt hnf).trans hx1
  have tkA : KTouch (x.F cb) w w2 := (KTouch.of hB2).trans tk2
  have q := HK.out w2 a1 tkA hg2
  have c2 := hg2.c0
  have hs12 : w.heap.size < w1.heap.size := hx1.lt
  have hs2 : w.heap.size < w2.heap.size := hx2.lt
  have hn2' : ∀ g ∈ a1.F x.kb, g ∈ x.a.F x.kb ∨ w.heap.size + 1 ≤ g := fun g hg => (hn2 g hg).imp id (fun e => by omega)
  have hnf2 : w.heap.size ∉ a1.F x.kb := fun hm => by
    rcases hn2' _ hm with e | e
    · exact hnf (TW.mem2 e)
    · omega
  have HN2 : Hid (∀ g ∈ a1.F x.kb, g ∈ x.a.F x.kb ∨ w.heap.size + 1 ≤ g) := hn2'
  clear hg2 tk2 hx1 HN HC HK hn2 hn2' hB2
  go_wp2_with (go_at_call 20; refine q.mono ?_; rintro e w6 ⟨rfl, a2, hg6, tk6, hn6⟩; clear q; have hev : EvB w6 w.heap.size 0 0 0 0 := (tk6.block w.heap.size hs2 hnf2).trans hx2; obtain ⟨v0, v1, v2, v3⟩ := hev.cs; obtain ⟨y0, y1, y2, y3⟩ := hev.fs)
  have tkE : KTouch [w.heap.size] w6 ((((w6.setCell ⟨w.heap.size, 0, none⟩ (.int .i64 t1)).setCell ⟨w.heap.size, 1, none⟩ (.int .i64 t2)).setCell ⟨w.heap.size, 2, none⟩ (.int .i64 t3)).setCell ⟨w.heap.size, 3, none⟩ (.int .i64 t4)) := (((KTouch.set w6 (by simp) 0 _).trans (KTouch.set _ (by simp) 1 _)).trans (KTouch.set _ (by simp) 2 _)).trans (KTouch.set _ (by simp) 3 _)
  have hnA : ∀ g ∈ a2.F x.kb, g ∈ x.a.F x.kb ∨ w.heap.size + 1 ≤ g := fun g hg => by
    rcases hn6 g hg with e | e
    · exact HN2.out g e
    · exact Or.inr (by omega)
  have hnew : ∀ g ∈ TW.F cb { x with a := a2 }, g ∈ x.F cb ∨ w.heap.size + 1 ≤ g := TW.new hnA
  have tk6' : KTouch (x.F cb) w w6 := by
    refine ⟨tk6.os.trans tkA.os, tk6.tape.trans tkA.tape, tk6.output.trans tkA.output, Nat.le_trans tkA.size tk6.size, fun k hk hm => ?_⟩
    refine (tk6.block k (Nat.lt_of_lt_of_le hk tkA.size) (fun hk2 => ?_)).trans (tkA.block k hk hm)
    rcases HN2.out k hk2 with e | e
    · exact hm (TW.mem2 e)
    · omega
  refine bodyPost_ret (v := .agg #[.int .i64 t1, .int .i64 t2, .int .i64 t3, .int .i64 t4]) ?_ rfl ⟨rfl, { x with a := a2 }, hg6.frame tkE (fun m hm => ?_), tk6'.more tkE (by simp), fun g hg => (hnew g hg).imp id (fun e => by omega)⟩
  · simp [results, Tryd.results23, go_sem, v0, v1, v2, v3]
  · rw [List.mem_singleton] at hm
    subst hm
    intro hm
    rcases hnew _ hm with e | e
    · exact hnf e
    · omega
end Go.Proofs.YteejpehfmnjgfafDoor
