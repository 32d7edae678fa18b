/-
  Package care: a tick.
-/
import Derived.Test.YtfconbblnmbnpahGreatDoorCrHelp
import Derived.Test.YtfconbblnmbnpahGreatDoorJc13
import Derived.Test.YtfconbblnmbnpahGreatDoorJc2
import Derived.Test.YtfconbblnmbnpahGreatDoorJc11
namespace Go.Proofs.YtfconbblnmbnpahGreatDoor
open Go.RowKit

set_option maxRecDepth 100000 in
set_option maxHeartbeats 8000000 in
theorem crtick_any (p : PD) (what : List Int) (most : Int) (d : CD) (cb base : Nat) (x : CW) (w : World) (hfm : Forms w) (h : GC w base p what most d cb x) (hbw : base ≤ w.heap.size) (hfb : ∀ W, Below base w W → Forms W) (hc : carE p what most = 0) (hok : COk p what most d) (ht : d.k.time < 100000000) :
    Calls Tryz.prog 24 #[.pointer (some ⟨cb, 0, none⟩)] w fun e w' => e = .returned (evA (evC p what most d)) ∧ ∃ x', GC w' base p what most (tickC p what most d) cb x' ∧ KTouch (x.F cb) w w' ∧ ∀ g ∈ x'.F cb, g ∈ x.F cb ∨ w.heap.size ≤ g := by
  have hp := (carE_zero hc).1
  have hB1 : Below w.heap.size w (w.alloc (.cells #[.int .i64 0, .int .i64 0, .int .i64 0, .int .i64 0] 32)) := (Below.refl _ w).alloc (Nat.le_refl _) _
  have hbox : EvB (w.alloc (.cells #[.int .i64 0, .int .i64 0, .int .i64 0, .int .i64 0] 32)) w.heap.size 0 0 0 0 := World.alloc_heap_new w _
  generalize hW1 : w.alloc (.cells #[.int .i64 0, .int .i64 0, .int .i64 0, .int .i64 0] 32) = W1 at hB1 hbox
  obtain ⟨t1, ht1⟩ : ∃ y, (evC p what most d).1 = y := ⟨_, rfl⟩
  obtain ⟨t2, ht2⟩ : ∃ y, (evC p what most d).2.1 = y := ⟨_, rfl⟩
  obtain ⟨t3, ht3⟩ : ∃ y, (evC p what most d).2.2.1 = y := ⟨_, rfl⟩
  obtain ⟨t4, ht4⟩ : ∃ y, (evC p what most d).2.2.2 = y := ⟨_, rfl⟩
  have hgo : evA (evC p what most d) = .agg #[.int .i64 t1, .int .i64 t2, .int .i64 t3, .int .i64 t4] := by
    unfold evA
    rw [ht1, ht2, ht3, ht4]
  have hek : evA (tickK p p.spans (helpC p what most d).k).2 = .agg #[.int .i64 t1, .int .i64 t2, .int .i64 t3, .int .i64 t4] := hgo
  rw [hgo]
  have D1 := h.all hB1
  have HT : Hid (Calls Tryz.prog 56 #[.pointer (some ⟨x.kb, 0, none⟩)] W1 fun e w' => e = .returned (.int .i64 (whoK p d.k)) ∧ Below W1.heap.size W1 w') := gturn_any p d.k x.kb base x.a W1 D1.k hp hok.k.time
  have HH : Hid (∀ W, Below w.heap.size w W → Calls Tryz.prog 55 #[.pointer (some ⟨cb, 0, none⟩), .int .i64 (whoK p d.k)] W fun e w' => (∃ v, e = .returned v) ∧ GC w' base p what most (helpC p what most d) cb x ∧ KTouch (x.F cb) W w') := fun W hb => crhelp_any p what most d cb base x _ W (hfm.all hb) (h.all hb) hc hok rfl
  have HK : Hid (∀ W, KTouch (x.F cb) w W → GC W base p what most (helpC p what most d) cb x → Calls Tryz.prog 26 #[.pointer (some ⟨x.kb, 0, none⟩)] W fun e w' => e = .returned (.agg #[.int .i64 t1, .int .i64 t2, .int .i64 t3, .int .i64 t4]) ∧ ∃ a', GC w' base p what most (tickC p what most d) cb { x with a := a' } ∧ KTouch (x.F cb) W w' ∧ ∀ g ∈ a'.F x.kb, g ∈ x.a.F x.kb ∨ W.heap.size ≤ g) := fun W hb hg => by
    have q := gtick_any p (helpC p what most d).k x.kb base x.a W (hfb W (hb.below h.fge hbw)) hg.k (Nat.le_trans hbw hb.size) hp (helpC_ok hp hok).k (by rw [help_time]; exact ht)
    refine q.mono ?_
    rintro e w' ⟨rfl, a', h1, h2, h3⟩
    exact ⟨by rw [hek], a', hg.kern h2 h1 h3, h2.mono (fun m hm => by simp [CW.F, hm]), h3⟩
  have HF : Hid (∀ g ∈ x.F cb, g < w.heap.size) := h.flt
  have c0 := D1.c0
  have HD1 : Hid (GC W1 base p what most d cb x) := D1
  clear h hfm hok hc D1 hgo hek ht1 ht2 ht3 ht4 hfb
  go_enter Tryz.func24, Tryz.ntmps24
  go_upto_region 1 with fail
  have hs1 : W1.heap.size = w.heap.size + 1 := by rw [← hW1]; simp
  clear hW1
  go_upto_region 2 with (first
    | (go_at_call 56; refine HT.out.mono ?_; rintro e w1 ⟨rfl, b1⟩; have hB2 := hB1.trans (b1.mono hB1.size); have hx1 : EvB w1 w.heap.size 0 0 0 0 := (b1.block _ hbox.lt).trans hbox)
    | (go_at_call 55; refine (HH.out w1 hB2).mono ?_; rintro e w2 ⟨⟨v, rfl⟩, hg2, tk2⟩))
  have hnf : w.heap.size ∉ x.F cb := fun hm => by have := HF.out _ hm; omega
  have hx2 : EvB w2 w.heap.size 0 0 0 0 := (tk2.block _ hx1.lt hnf).trans hx1
  have tkA : KTouch (x.F cb) w w2 := (KTouch.of hB2).trans tk2
  have q := HK.out w2 tkA hg2
  have c2 := hg2.c0
  clear hg2 tk2 hx1 HT HH HK hB2 c0
  have hs2 : w.heap.size < w2.heap.size := hx2.lt
  go_wp2_with (go_at_call 26; refine q.mono ?_; rintro e w6 ⟨rfl, a', hg6, tk6, hn6⟩; clear q; have hev : EvB w6 w.heap.size 0 0 0 0 := (tk6.block w.heap.size hs2 hnf).trans hx2; obtain ⟨v0, v1, v2, v3⟩ := hev.cs; obtain ⟨y0, y1, y2, y3⟩ := hev.fs)
  have tkE : KTouch [w.heap.size] w6 ((((w6.setCell ⟨w.heap.size, 0, none⟩ (.int .i64 t1)).setCell ⟨w.heap.size, 1, none⟩ (.int .i64 t2)).setCell ⟨w.heap.size, 2, none⟩ (.int .i64 t3)).setCell ⟨w.heap.size, 3, none⟩ (.int .i64 t4)) := (((KTouch.set w6 (by simp) 0 _).trans (KTouch.set _ (by simp) 1 _)).trans (KTouch.set _ (by simp) 2 _)).trans (KTouch.set _ (by simp) 3 _)
  have hnew : ∀ g ∈ CW.F cb { x with a := a' }, g ∈ x.F cb ∨ w2.heap.size ≤ g := fun g hg => by
    unfold CW.F at hg ⊢
    simp only [List.mem_cons] at hg ⊢
    rcases hg with e | e | e
    · exact Or.inl (Or.inl e)
    · exact Or.inl (Or.inr (Or.inl e))
    · exact (hn6 g e).imp (fun e => Or.inr (Or.inr e)) id
  refine bodyPost_ret (v := .agg #[.int .i64 t1, .int .i64 t2, .int .i64 t3, .int .i64 t4]) ?_ rfl ⟨rfl, { x with a := a' }, hg6.frame tkE (fun m hm => ?_), (tkA.trans tk6).more tkE (by simp), fun g hg => (hnew g hg).imp id (fun e => by omega)⟩
  · simp [results, Tryz.results24, go_sem, v0, v1, v2, v3]
  · rw [List.mem_singleton] at hm
    subst hm
    intro hm
    rcases hnew _ hm with e | e
    · exact hnf e
    · omega
end Go.Proofs.YtfconbblnmbnpahGreatDoor
