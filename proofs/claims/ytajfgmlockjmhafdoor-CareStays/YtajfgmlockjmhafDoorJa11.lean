/-
  CrTick, CrST: joined into one text.
-/
import Derived.Test.YtajfgmlockjmhafDoorJa10
import Derived.Test.YtajfgmlockjmhafDoorJa3
import Derived.Test.YtajfgmlockjmhafDoorJa2
import Derived.Test.YtajfgmlockjmhafDoorGTick
import Derived.Test.YtajfgmlockjmhafDoorJa9
namespace Go.Proofs.YtajfgmlockjmhafDoor
open Go.RowKit

set_option maxRecDepth 100000 in
set_option maxHeartbeats 8000000 in
theorem crtick_any (p : PD) (what : List Int) (most : Int) (d : CD) (cb base : Nat) (x : CW) (w : World) (hfm : Forms w) (h : GC w base p what most d cb x) (hbw : base ≤ w.heap.size) (hfb : ∀ W, Below base w W → Forms W) (hc : carE p what most = 0) (hok : COk p what most d) (ht : d.k.time < 100000000) :
    Calls Tryd.prog 16 #[.pointer (some ⟨cb, 0, none⟩)] w fun e w' => e = .returned (evA (evC p what most d)) ∧ ∃ x', GC w' base p what most (tickC p what most d) cb x' ∧ KTouch (x.F cb) w w' ∧ ∀ g ∈ x'.F cb, g ∈ x.F cb ∨ w.heap.size ≤ g := by
  have hp := (carE_zero hc).1
  have hB1 : Below w.heap.size w (w.alloc (.cells #[.int .i64 0, .int .i64 0, .int .i64 0, .int .i64 0] 45)) := (Below.refl _ w).alloc (Nat.le_refl _) _
  have hbox : EvB (w.alloc (.cells #[.int .i64 0, .int .i64 0, .int .i64 0, .int .i64 0] 45)) w.heap.size 0 0 0 0 := World.alloc_heap_new w _
  generalize hW1 : w.alloc (.cells #[.int .i64 0, .int .i64 0, .int .i64 0, .int .i64 0] 45) = W1 at hB1 hbox
  obtain ⟨t1, ht1⟩ : ∃ y, (evC p what most d).1 = y := ⟨_, rfl⟩
  obtain ⟨t2, ht2⟩ : ∃ y, (evC p what most d).2.1 = y := ⟨_, rfl⟩
  obtain ⟨t3, ht3⟩ : ∃ y, (evC p what most d).2.2.1 = y := ⟨_, rfl⟩
  obtain ⟨t4, ht4⟩ : ∃ y, (evC p what most d).2.2.2 = y := ⟨_, rfl⟩
  have hgo : evA (evC p what most d) = .agg #[.int .i64 t1, .int .i64 t2, .int .i64 t3, .int .i64 t4] := by
    unfold evA
    rw [ht1, ht2, ht3, ht4]
  have hek : evA (tickK p p.spans (helpC p what most d).k).2 = .agg #[.int .i64 t1, .int .i64 t2, .int .i64 t3, .int .i64 t4] := hgo
  rw [hgo]
  have D1 := h.all hB1
  have HT : Hid (Calls Tryd.prog 40 #[.pointer (some ⟨x.kb, 0, none⟩)] W1 fun e w' => e = .returned (.int .i64 (whoK p d.k)) ∧ Below W1.heap.size W1 w') := gturn_any p d.k x.kb base x.a W1 D1.k hp hok.k.time
  have HH : Hid (∀ W, Below w.heap.size w W → Calls Tryd.prog 39 #[.pointer (some ⟨cb, 0, none⟩), .int .i64 (whoK p d.k)] W fun e w' => (∃ v, e = .returned v) ∧ GC w' base p what most (helpC p what most d) cb x ∧ KTouch (x.F cb) W w') := fun W hb => crhelp_any p what most d cb base x _ W (hfm.all hb) (h.all hb) hc hok rfl
  have HK : Hid (∀ W, KTouch (x.F cb) w W → GC W base p what most (helpC p what most d) cb x → Calls Tryd.prog 20 #[.pointer (some ⟨x.kb, 0, none⟩)] W fun e w' => e = .returned (.agg #[.int .i64 t1, .int .i64 t2, .int .i64 t3, .int .i64 t4]) ∧ ∃ a', GC w' base p what most (tickC p what most d) cb { x with a := a' } ∧ KTouch (x.F cb) W w' ∧ ∀ g ∈ a'.F x.kb, g ∈ x.a.F x.kb ∨ W.heap.size ≤ g) := fun W hb hg => by
    have q := gtick_any p (helpC p what most d).k x.kb base x.a W (hfb W (hb.below h.fge hbw)) hg.k (Nat.le_trans hbw hb.size) hp (helpC_ok hp hok).k (by rw [help_time]; exact ht)
    refine q.mono ?_
    rintro e w' ⟨rfl, a', h1, h2, h3⟩
    exact ⟨by rw [hek], a', hg.kern h2 h1 h3, h2.mono (fun m hm => by simp [CW.F, hm]), h3⟩
  have HF : Hid (∀ g ∈ x.F cb, g < w.heap.size) := h.flt
  have c0 := D1.c0
  have HD1 : Hid (GC W1 base p what most d cb x) := D1
  clear h hfm hok hc D1 hgo hek ht1 ht2 ht3 ht4 hfb
  go_enter Tryd.func16, Tryd.ntmps16
  go_upto_region 1 with fail
  have hs1 : W1.heap.size = w.heap.size + 1 := by rw [← hW1]; simp
  clear hW1
  go_upto_region 2 with (first
    | (go_at_call 40; refine HT.out.mono ?_; rintro e w1 ⟨rfl, b1⟩; have hB2 := hB1.trans (b1.mono hB1.size); have hx1 : EvB w1 w.heap.size 0 0 0 0 := (b1.block _ hbox.lt).trans hbox)
    | (go_at_call 39; refine (HH.out w1 hB2).mono ?_; rintro e w2 ⟨⟨v, rfl⟩, hg2, tk2⟩))
  have hnf : w.heap.size ∉ x.F cb := fun hm => by have := HF.out _ hm; omega
  have hx2 : EvB w2 w.heap.size 0 0 0 0 := (tk2.block _ hx1.lt hnf).trans hx1
  have tkA : KTouch (x.F cb) w w2 := (KTouch.of hB2).trans tk2
  have q := HK.out w2 tkA hg2
  have c2 := hg2.c0
  clear hg2 tk2 hx1 HT HH HK hB2 c0
  have hs2 : w.heap.size < w2.heap.size := hx2.lt
  go_wp2_with (go_at_call 20; refine q.mono ?_; rintro e w6 ⟨rfl, a', hg6, tk6, hn6⟩; clear q; have hev : EvB w6 w.heap.size 0 0 0 0 := (tk6.block w.heap.size hs2 hnf).trans hx2; obtain ⟨v0, v1, v2, v3⟩ := hev.cs; obtain ⟨y0, y1, y2, y3⟩ := hev.fs)
  have tkE : KTouch [w.heap.size] w6 ((((w6.setCell ⟨w.heap.size, 0, none⟩ (.int .i64 t1)).setCell ⟨w.heap.size, 1, none⟩ (.int .i64 t2)).setCell ⟨w.heap.size, 2, none⟩ (.int .i64 t3)).setCell ⟨w.heap.size, 3, none⟩ (.int .i64 t4)) := (((KTouch.set w6 (by simp) 0 _).trans (KTouch.set _ (by simp) 1 _)).trans (KTouch.set _ (by simp) 2 _)).trans (KTouch.set _ (by simp) 3 _)
  have hnew : ∀ g ∈ CW.F cb { x with a := a' }, g ∈ x.F cb ∨ w2.heap.size ≤ g := fun g hg => by
    unfold CW.F at hg ⊢
    simp only [List.mem_cons] at hg ⊢
    rcases hg with e | e | e
    · exact Or.inl (Or.inl e)
    · exact Or.inl (Or.inr (Or.inl e))
    · exact (hn6 g e).imp (fun e => Or.inr (Or.inr e)) id
  refine bodyPost_ret (v := .agg #[.int .i64 t1, .int .i64 t2, .int .i64 t3, .int .i64 t4]) ?_ rfl ⟨rfl, { x with a := a' }, hg6.frame tkE (fun m hm => ?_), (tkA.trans tk6).more tkE (by simp), fun g hg => (hnew g hg).imp id (fun e => by omega)⟩
  · simp [results, Tryd.results16, go_sem, v0, v1, v2, v3]
  · rw [List.mem_singleton] at hm
    subst hm
    intro hm
    rcases hnew _ hm with e | e
    · exact hnf e
    · omega
end Go.Proofs.YtajfgmlockjmhafDoor
namespace Go.Proofs.YtajfgmlockjmhafDoor
open Go.RowKit

set_option maxRecDepth 100000 in
set_option maxHeartbeats 4000000 in
theorem crstate_any (p : PD) (what : List Int) (most : Int) (d : CD) (cb base : Nat) (x : CW) (r : Int) (w : World) (h : GC w base p what most d cb x) :
    Calls Tryd.prog 21 #[.pointer (some ⟨cb, 0, none⟩), .int .i64 r] w fun e w' => e = .returned (.tuple #[stA (roomK d.k r), wErr (errB (noRoom d.k r))]) ∧ Below w.heap.size w w' := by
  have hB1 : Below w.heap.size w (w.alloc (.cells #[.int .i64 0, .int .i64 0, .int .i64 0, .int .i64 0, .int .i64 0, .int .i64 0, .int .i64 0, .bool false] 39)) := (Below.refl _ w).alloc (Nat.le_refl _) _
  have hbox : StB (w.alloc (.cells #[.int .i64 0, .int .i64 0, .int .i64 0, .int .i64 0, .int .i64 0, .int .i64 0, .int .i64 0, .bool false] 39)) w.heap.size stNew := World.alloc_heap_new w _
  generalize hW1 : w.alloc (.cells #[.int .i64 0, .int .i64 0, .int .i64 0, .int .i64 0, .int .i64 0, .int .i64 0, .int .i64 0, .bool false] 39) = W1 at hB1 hbox
  have D1 := h.all hB1
  have HS : Hid (Calls Tryd.prog 47 #[.pointer (some ⟨x.kb, 0, none⟩), .int .i64 r] W1 fun e w' => e = .returned (.tuple #[.agg #[.int .i64 (roomK d.k r).p, .int .i64 ((roomK d.k r).c 0), .int .i64 ((roomK d.k r).c 1), .int .i64 ((roomK d.k r).c 2), .int .i64 ((roomK d.k r).c 3), .int .i64 ((roomK d.k r).c 4), .int .i64 ((roomK d.k r).c 5), .bool (roomK d.k r).f], wErr (errB (noRoom d.k r))]) ∧ Below W1.heap.size W1 w') := gstate_any p d.k x.kb base x.a r W1 D1.k
  have c0 := D1.c0
  clear h D1
  unfold stA
  generalize roomK d.k r = s at HS ⊢
  generalize wErr (errB (noRoom d.k r)) = ev at HS ⊢
  go_enter Tryd.func21, Tryd.ntmps21
  go_upto_region 1 with fail
  clear hW1
  go_wp2_with (go_at_call 47; refine HS.out.mono ?_; rintro e w1 ⟨rfl, b1⟩; have hst : StB w1 w.heap.size stNew := (b1.block _ (Array.getElem?_eq_some_iff.1 hbox).1).trans hbox; obtain ⟨m0, m1, m2, m3, m4, m5, m6, m7⟩ := hst.cs; simp only [Nat.zero_add] at m1 m2 m3 m4 m5 m6 m7; have z0 := stb_fz hst 0; have z1 := stb_fz hst 1; have z2 := stb_fz hst 2; have z3 := stb_fz hst 3; have z4 := stb_fz hst 4; have z5 := stb_fz hst 5; have z6 := stb_fz hst 6; have z7 := stb_fz hst 7)
  refine bodyPost_ret (v := .tuple #[.agg #[.int .i64 s.p, .int .i64 (s.c 0), .int .i64 (s.c 1), .int .i64 (s.c 2), .int .i64 (s.c 3), .int .i64 (s.c 4), .int .i64 (s.c 5), .bool s.f], ev]) ?_ rfl ⟨rfl, below_st8 (hB1.trans (b1.mono hB1.size)) _ (Nat.le_refl _) _ _ _ _ _ _ _ _⟩
  simp [results, Tryd.results21, go_sem, m0, m1, m2, m3, m4, m5, m6, m7]
set_option maxRecDepth 100000 in
set_option maxHeartbeats 4000000 in
theorem crtimes_any (p : PD) (what : List Int) (most : Int) (d : CD) (cb base : Nat) (x : CW) (r : Int) (w : World) (h : GC w base p what most d cb x) (hl : d.ts.length = d.k.rooms.length) :
    Calls Tryd.prog 17 #[.pointer (some ⟨cb, 0, none⟩), .int .i64 r] w fun e w' => e = .returned (.tuple #[.int .i64 (timesC d r), wErr (errB (noRoom d.k r))]) ∧ Below w.heap.size w w' := by
  have c1 := h.c1
  by_cases h0 : r < 0
  · have hno : noRoom d.k r = true := by
      unfold noRoom
      rw [decide_eq_true h0, Bool.true_or]
    have ht : timesC d r = 0 := by
      unfold timesC
      rw [if_pos hno]
    rw [ht, hno]
    have h0' : decide (r < 0) = true := decide_eq_true h0
    clear h ht hno hl h0
    go_enter Tryd.func17, Tryd.ntmps17
    go_wp2
    go_ret2
    exact ⟨rfl, Below.refl _ _⟩
  · have h0' : decide (r < 0) = false := decide_eq_false h0
    by_cases h1 : (d.ts.length : Int) ≤ r
    · have hno : noRoom d.k r = true := by
        unfold noRoom
        rw [← hl, decide_eq_true h1, Bool.or_true]
      have ht : timesC d r = 0 := by
        unfold timesC
        rw [if_pos hno]
      rw [ht, hno]
      have h1' : decide ((d.ts.length : Int) ≤ r) = true := decide_eq_true h1
      clear h ht hno hl h0
      go_enter Tryd.func17, Tryd.ntmps17
      go_wp2
      go_ret2
      exact ⟨rfl, Below.refl _ _⟩
    · obtain ⟨rn, rfl⟩ : ∃ n : Nat, r = n := ⟨r.toNat, by omega⟩
      have hri : (rn : Int) < (d.ts.length : Int) := by omega
      have hno : noRoom d.k (rn : Int) = false := by
        unfold noRoom
        rw [Bool.or_eq_false_iff]
        exact ⟨h0', decide_eq_false (by omega)⟩
      obtain ⟨t, ht⟩ : ∃ t, d.ts[rn]? = some t := ⟨_, List.getElem?_eq_getElem (by omega)⟩
      have htc : timesC d rn = t := by
        unfold timesC
        rw [if_neg (by rw [hno]; decide), Int.toNat_natCast]
        simp [List.getD, ht]
      obtain ⟨_, _, q2⟩ := h.row rn t ht
      rw [htc, hno]
      have h1' : decide ((d.ts.length : Int) ≤ (rn : Int)) = false := decide_eq_false h1
      have h1'' : decide (d.ts.length ≤ rn) = false := decide_eq_false (by omega)
      clear h ht hno hl h0 htc h1
      go_enter Tryd.func17, Tryd.ntmps17
      go_wp2
      go_ret2
      exact ⟨rfl, Below.refl _ _⟩
end Go.Proofs.YtajfgmlockjmhafDoor
