/-
  WPlay1, WPlay2: joined into one text.
-/
import Derived.Test.YtfconbblnmbnpacDoorJa3
import Derived.Test.YtfconbblnmbnpacDoorJa1
import Derived.Deep.RegionHeld3
namespace Go.Proofs.YtfconbblnmbnpacDoor
open Go.RowKit

/-- The kinds that may be. -/
def Kd (k d : Int) : Prop := (k = 1 ∧ d = 1) ∨ (k = 2 ∧ 1 ≤ d ∧ d ≤ 6)
theorem both_send {w : World} {base bl bm : Nat} {k d ls : Int} {xs : List Int} {v u : Value} (hk : Kd k d) (h : Mid w base bl bm k d xs ls v xs ls u) (n : Int) (hn0 : 0 ≤ n) (hn1 : n < 1000) (hx : xs.length ≤ 6) (hls : 0 ≤ ls ∧ ls < 1000) {B : Nat} (hB : B ≤ w.heap.size) (hl : B ≤ bl) (hm : B ≤ bm) :
    ∃ (is : Bool) (x : Int) (t : List Int) (ls' : Int), t.length < 6 ∧ ls ≤ ls' ∧ ls' ≤ ls + 1 ∧
      Calls Tryd.prog 11 #[.pointer (some ⟨bm, 0, none⟩), .int .i64 n] w (fun e w1 => ∃ u', e = .returned (.bool is) ∧ Mid w1 base bl bm k d xs ls v (x :: t) ls' u' ∧ Below B w w1) ∧
      ∀ w1 u', B ≤ w1.heap.size → Mid w1 base bl bm k d xs ls v (x :: t) ls' u' → Calls Tryd.prog 12 #[.pointer (some ⟨bl, 0, none⟩), .int .i64 n] w1 (fun e w2 => ∃ v', e = .returned (.tuple #[.bool is, .nilIface]) ∧ Mid w2 base bl bm k d (x :: t) ls' v' (x :: t) ls' u' ∧ Below B w1 w2) := by
  rcases hk with ⟨rfl, rfl⟩ | ⟨rfl, hd1, hd6⟩
  · refine ⟨true, n, [], ls, by simp, by omega, by omega, (rsend_sample base bm 1 xs ls u n w h.r).mono fun e w1 ⟨u', he, hR, hT⟩ => ⟨u', he, h.stepR hR hT, hT.below hm hB⟩, fun w1 u' hB1 h1 => ?_⟩
    exact (send_sample base bl xs ls v n w1 hn0 hn1 h1.p).mono fun e w2 ⟨v', he, hL, hT⟩ => ⟨v', he, h1.stepP hL hT, hT.below hl (h1.p.own (Nat.le_trans hl (Nat.le_of_lt h1.p.lt))) hB1⟩
  · by_cases hr : (xs.length : Int) < d
    · obtain ⟨x, t, hxt⟩ : ∃ x t, xs ++ [n] = x :: t := by
        cases xs with
        | nil => exact ⟨n, [], rfl⟩
        | cons a r => exact ⟨a, r ++ [n], rfl⟩
      have hlen : t.length < 6 := by
        have := congrArg List.length hxt
        simp at this
        omega
      refine ⟨true, x, t, ls, hlen, by omega, by omega, (rsend_room base bm d xs ls u n w h.r hr (by omega)).mono fun e w1 ⟨u', he, hR, hT⟩ => ⟨u', he, h.stepR (hxt ▸ hR) hT, hT.below hm hB⟩, fun w1 u' hB1 h1 => ?_⟩
      exact (send_room base bl d xs ls v n w1 hn0 hn1 h1.p hr (by omega)).mono fun e w2 ⟨v', he, hL, hT⟩ => ⟨v', he, h1.stepP (hxt ▸ hL) hT, hT.below hl (h1.p.own (Nat.le_trans hl (Nat.le_of_lt h1.p.lt))) hB1⟩
    · cases xs with
      | nil => simp at hr; omega
      | cons x t =>
        refine ⟨false, x, t, ls + 1, by simp at hx; omega, by omega, by omega, (rsend_full base bm d (x :: t) ls u n w (by omega) h.r (by omega)).mono fun e w1 ⟨he, hR, hT⟩ => ⟨u, he, h.stepR hR hT, hT.below hm hB⟩, fun w1 u' hB1 h1 => ?_⟩
        exact (send_full base bl d (x :: t) ls v n w1 hn0 hn1 (by omega) h1.p (by omega)).mono fun e w2 ⟨he, hL, hT⟩ => ⟨v, he, h1.stepP hL hT, hT.below hl (h1.p.own (Nat.le_trans hl (Nat.le_of_lt h1.p.lt))) hB1⟩
theorem both_none {w : World} {base bl bm : Nat} {k d ls : Int} {v u : Value} (h : Mid w base bl bm k d [] ls v [] ls u) :
    Calls Tryd.prog 9 #[.pointer (some ⟨bm, 0, none⟩)] w (fun e w1 => e = .returned (.tuple #[.int .i64 0, .bool false]) ∧ w1 = w) ∧
    Calls Tryd.prog 10 #[.pointer (some ⟨bl, 0, none⟩)] w (fun e w1 => e = .returned (.tuple #[.int .i64 0, .iface 61 (.int .i64 5)]) ∧ w1 = w) := by
  refine ⟨rtake_none base bm k d ls u w h.r, ?_⟩
  obtain ⟨va, vc, rfl⟩ : ∃ va vc, v = .slice va 0 vc := by
    rcases h.p.form with ⟨rfl, _⟩ | ⟨g, cap', rfl⟩
    · exact ⟨_, _, rfl⟩
    · exact ⟨_, _, rfl⟩
  exact take_none bl k d ls va vc w h.p.c
theorem Ln.head {w : World} {base b : Nat} {kd dp ls : Int} {x : Int} {t : List Int} {v : Value} (h : Ln w base b kd dp (x :: t) ls v) : ∃ g cap, v = .slice (some ⟨g, 0, none⟩) (t.length + 1) cap ∧ w.cell? ⟨g, 0, none⟩ = some (.int .i64 x) := by
  rcases h.form with ⟨_, h0⟩ | ⟨g, cap, rfl⟩
  · cases h0
  · exact ⟨g, cap, rfl, (own_cap h.row).2.2.2.2.1 0 _ rfl⟩
theorem both_some {w : World} {base bl bm : Nat} {k d ls x : Int} {t : List Int} {v u : Value} (hk : Kd k d) (h : Mid w base bl bm k d (x :: t) ls v (x :: t) ls u) (hx : t.length < 6) {B : Nat} (hB : B ≤ w.heap.size) (hl : B ≤ bl) (hm : B ≤ bm) :
    ∃ xs', xs'.length ≤ 6 ∧
      Calls Tryd.prog 9 #[.pointer (some ⟨bm, 0, none⟩)] w (fun e w1 => ∃ u', e = .returned (.tuple #[.int .i64 x, .bool true]) ∧ Mid w1 base bl bm k d (x :: t) ls v xs' ls u' ∧ Below B w w1) ∧
      ∀ w1 u', B ≤ w1.heap.size → Mid w1 base bl bm k d (x :: t) ls v xs' ls u' → Calls Tryd.prog 10 #[.pointer (some ⟨bl, 0, none⟩)] w1 (fun e w2 => ∃ v', e = .returned (.tuple #[.int .i64 x, .nilIface]) ∧ Mid w2 base bl bm k d xs' ls v' xs' ls u' ∧ Below B w1 w2) := by
  rcases hk with ⟨rfl, rfl⟩ | ⟨rfl, hd1, hd6⟩
  · refine ⟨x :: t, by simp; omega, (rtake_sample base bm 1 x t ls u w h.r).mono fun e w1 ⟨he, hw⟩ => ⟨u, he, by rw [hw]; exact h, by rw [hw]; exact Below.refl _ _⟩, fun w1 u' hB1 h1 => ?_⟩
    obtain ⟨g, cap, hv, hg⟩ := h1.p.head
    have hc := h1.p.c
    rw [hv] at hc
    exact (take_sample bl 1 ls g (t.length + 1) cap x w1 hc (by omega) hg).mono fun e w2 ⟨he, hw⟩ => ⟨v, he, by rw [hw]; exact h1, by rw [hw]; exact Below.refl _ _⟩
  · refine ⟨t, by omega, (rtake_queue base bm d x t ls u w h.r).mono fun e w1 ⟨u', he, hR, hT⟩ => ⟨u', he, h.stepR hR hT, hT.below hm hB⟩, fun w1 u' hB1 h1 => ?_⟩
    exact (take_queue base bl d ls x t v w1 h1.p).mono fun e w2 ⟨v', he, hL, hT⟩ => ⟨v', he, h1.stepP hL hT, hT.below hl (h1.p.own (Nat.le_trans hl (Nat.le_of_lt h1.p.lt))) hB1⟩
/-- What is asked behind each step: of lines that are the same. -/
theorem both_held {w : World} {base bl bm : Nat} {k d ls : Int} {xs : List Int} {v u : Value} (h : Mid w base bl bm k d xs ls v xs ls u) (hx : xs.length ≤ 6) :
    Calls Tryd.prog 15 #[.pointer (some ⟨bl, 0, none⟩)] w.drew (fun e w3 => ∃ ao cap, e = .returned (.agg #[.slice ao xs.length cap, .int .i64 ls]) ∧ Below w.heap.size w w3 ∧
      Calls Tryd.prog 14 #[.agg #[.slice ao xs.length cap, .int .i64 ls], .agg #[u, .int .i64 ls]] w3 (fun e w4 => e = .returned (.bool true) ∧ Below w3.heap.size w3 w4)) := by
  have hd : Below w.heap.size w w.drew := (Below.refl _ _).drew
  have h' := h.below hd
  refine (held_any base bl k d xs ls v w.drew (by omega) h'.p).mono fun e w3 ⟨ao, cap, he, hown, hb⟩ => ⟨ao, cap, he, hd.trans hb, ?_⟩
  exact wheld_any _ _ xs ls w3 (Rd.own hown) (h'.r.rd.all hb) (by omega)
theorem both_peek {w : World} {base bl bm : Nat} {k d ls x : Int} {t : List Int} {v u : Value} (h : Mid w base bl bm k d (x :: t) ls v (x :: t) ls u) :
    Calls Tryd.prog 13 #[.pointer (some ⟨bl, 0, none⟩)] w (fun e w1 => e = .returned (.tuple #[.int .i64 x, .bool true]) ∧ w1 = w) ∧
    ∃ g off cap, u = .slice (some ⟨g, off, none⟩) (t.length + 1) cap ∧ w.cell? ⟨bm, 4, none⟩ = some (.slice (some ⟨g, off, none⟩) (t.length + 1) cap) ∧ w.cell? ⟨bm, 5, none⟩ = some (.int .i64 ls) ∧ w.cell? ⟨g, off, none⟩ = some (.int .i64 x) ∧ bm < w.heap.size ∧ g < w.heap.size := by
  obtain ⟨g, cap, hv, hg⟩ := h.p.head
  have hc := h.p.c
  rw [hv] at hc
  obtain ⟨g', off, cap', hu, h1, h2, h3, h4, _⟩ := h.r.rd.cons
  obtain ⟨c0, c1, c2, c3, f2, f3⟩ := h.r.c
  rw [hu] at c2
  exact ⟨peek_some bl k d ls g (t.length + 1) cap x w hc (by omega) hg, g', off, cap', hu, c2, c3, h4, h.r.c.lt, h3⟩
theorem both_peek0 {w : World} {base bl bm : Nat} {k d ls : Int} {v u : Value} (h : Mid w base bl bm k d [] ls v [] ls u) :
    Calls Tryd.prog 13 #[.pointer (some ⟨bl, 0, none⟩)] w (fun e w1 => e = .returned (.tuple #[.int .i64 0, .bool false]) ∧ w1 = w) ∧
    ∃ ao cap, u = .slice ao 0 cap ∧ w.cell? ⟨bm, 4, none⟩ = some (.slice ao 0 cap) ∧ w.cell? ⟨bm, 5, none⟩ = some (.int .i64 ls) ∧ bm < w.heap.size := by
  obtain ⟨va, vc, hv⟩ : ∃ va vc, v = .slice va 0 vc := by
    rcases h.p.form with ⟨rfl, _⟩ | ⟨g, cap', rfl⟩
    · exact ⟨_, _, rfl⟩
    · exact ⟨_, _, rfl⟩
  have hc := h.p.c
  rw [hv] at hc
  obtain ⟨ao, cap, hu⟩ := h.r.rd.form
  obtain ⟨c0, c1, c2, c3, f2, f3⟩ := h.r.c
  rw [hu] at c2
  exact ⟨peek_none bl k d ls va vc w hc, ao, cap, hu, c2, c3, h.r.c.lt⟩
end Go.Proofs.YtfconbblnmbnpacDoor
namespace Go.Proofs.YtfconbblnmbnpacDoor
open Go.RowKit

/-- Where both lines are, behind so many steps. -/
def PSt (w wr : World) (base bl bm : Nat) (k d : Int) (i : Nat) : Prop := ∃ xs ls v u, Mid wr base bl bm k d xs ls v xs ls u ∧ xs.length ≤ 6 ∧ 0 ≤ ls ∧ ls ≤ i ∧ Below w.heap.size w wr

set_option maxRecDepth 100000 in
set_option maxHeartbeats 16000000 in
theorem play_ok (f t k d : Int) (l : List Int) (sv : Value) (w : World) (hE : ErrT w) (hs : Stp w sv l) (h : wchk f t k d = 0) :
    Calls Tryd.prog 3 #[wV f t k d, sv] w fun ev w' => ev = .returned (.bool true) ∧ Below w.heap.size w w' := by
  have HK : Hid (Kd k d) := wchk_kind h
  have hA : Below w.heap.size w (w.alloc (.cells #[.int .i64 f, .int .i64 t, .int .i64 k, .int .i64 d] 23)) := (Below.refl _ _).alloc (Nat.le_refl _) _
  have hr := refwire_any f t k d (w.alloc (.cells #[.int .i64 f, .int .i64 t, .int .i64 k, .int .i64 d] 23))
  have HN : Hid (∀ W, Calls Tryd.prog 8 #[wV f t k d] W fun e w' => ∃ b, e = .returned (.tuple #[.pointer (some ⟨b, 0, none⟩), .nilIface]) ∧ LnC w' b k d 0 (.slice none 0 0) ∧ W.heap.size ≤ b ∧ b < w'.heap.size ∧ Below W.heap.size W w') := fun W => wnew_ok f t k d W h
  have HC : Hid (∀ W, Calls Tryd.prog 7 #[wV f t k d] W fun e w' => e = .returned .nilIface ∧ Below W.heap.size W w') := fun W => by
    have := wcheck_any f t k d W
    rw [h] at this
    exact this
  have HX : Hid (∀ W, Below w.heap.size w W → Calls Tryd.prog 6 #[.nilIface, .int .i64 0] W fun r w' => r = .returned (.bool true) ∧ Below W.heap.size W w') := fun W hW => error_any 0 0 W (hE.all hW)
  have HXe : Hid (∀ (q : Int) W, q ≠ 0 → Below w.heap.size w W → Calls Tryd.prog 6 #[.iface 61 (.int .i64 q), .int .i64 q] W fun r w' => r = .returned (.bool true) ∧ Below W.heap.size W w') := fun q W hq hW => by
    have := error_any q q W (hE.all hW)
    rw [wErr_not hq] at this
    simpa using this
  rw [h] at hr
  clear h hE
  obtain ⟨sa, sc, rfl⟩ := hs.form
  have HS : Hid (Stp w (.slice sa l.length sc) l) := hs
  clear hs
  have HQ : Hid (∀ W, Below (w.heap.size + 1) (w.alloc (.cells #[.int .i64 f, .int .i64 t, .int .i64 k, .int .i64 d] 23)) W → (W.cell? ⟨w.heap.size, 0, none⟩ = some (.int .i64 f) ∧ W.cell? ⟨w.heap.size, 1, none⟩ = some (.int .i64 t) ∧ W.cell? ⟨w.heap.size, 2, none⟩ = some (.int .i64 k) ∧ W.cell? ⟨w.heap.size, 3, none⟩ = some (.int .i64 d)) ∧ w.heap.size < W.heap.size ∧ Below w.heap.size w W) := fun W hW => ⟨⟨(hW.cell (p := ⟨w.heap.size, 0, none⟩) (by simp)).trans (by simp), (hW.cell (p := ⟨w.heap.size, 1, none⟩) (by simp)).trans (by simp), (hW.cell (p := ⟨w.heap.size, 2, none⟩) (by simp)).trans (by simp), (hW.cell (p := ⟨w.heap.size, 3, none⟩) (by simp)).trans (by simp)⟩, by have := hW.size; simp at this; omega, hA.trans (hW.mono (Nat.le_succ _))⟩
  unfold wV at hr HN HC ⊢
  go_enter Tryd.func3, Tryd.ntmps3
  go_wp2_with (first
    | (go_at_call 5; refine hr.mono ?_; rintro e w1 ⟨rfl, b1⟩; clear hr; replace b1 : Below (w.heap.size + 1) (w.alloc (.cells #[.int .i64 f, .int .i64 t, .int .i64 k, .int .i64 d] 23)) w1 := by simpa using b1
       obtain ⟨⟨r0, r1, r2, r3⟩, hlt1, _⟩ := HQ.out w1 b1
       have hc := HC.out w1; clear HC)
    | (go_at_call 7; refine hc.mono ?_; rintro e w2 ⟨rfl, b2⟩; clear hc; replace b2 := b1.trans (b2.mono hlt1)
       clear r0 r1 r2 r3
       obtain ⟨⟨r0, r1, r2, r3⟩, hlt2, hb2⟩ := HQ.out w2 b2
       have hx1 := HX.out w2 hb2)
    | (go_at_call 6; refine hx1.mono ?_; rintro e w3 ⟨rfl, b3⟩; clear hx1; replace b3 := b2.trans (b3.mono hlt2)
       clear r0 r1 r2 r3
       obtain ⟨⟨r0, r1, r2, r3⟩, hlt3, hb3⟩ := HQ.out w3 b3
       have hn := HN.out w3; clear HN)
    | (go_at_call 8; refine hn.mono ?_; rintro e w4 ⟨bl, rfl, hlc, hbl, hbl1, b4⟩; clear hn; replace b4 := b3.trans (b4.mono hlt3)
       clear r0 r1 r2 r3
       obtain ⟨_, hlt4, hb4⟩ := HQ.out w4 b4
       have hx2 := HX.out w4 hb4)
    | (go_at_call 6; refine hx2.mono ?_; rintro e w5 ⟨rfl, b5⟩; clear hx2; have b5' := b4.trans (b5.mono hlt4)
       obtain ⟨⟨r0, r1, r2, r3⟩, hlt5, hb5⟩ := HQ.out w5 b5'
       replace hlc := hlc.below b5 hbl1))
  have hs5 := b5.size
  have hbm : Below w5.heap.size w5 (w5.alloc (.cells #[.int .i64 f, .int .i64 t, .int .i64 k, .int .i64 d, .slice none 0 0, .int .i64 0] 37)) := (Below.refl _ _).alloc (Nat.le_refl _) _
  have HP : Hid (PSt w (w5.alloc (.cells #[.int .i64 f, .int .i64 t, .int .i64 k, .int .i64 d, .slice none 0 0, .int .i64 0] 37)) (w5.heap.size + 1) bl w5.heap.size k d 0) := ⟨[], 0, .slice none 0 0, .slice none 0 0, ⟨⟨hlc.below hbm (by omega), World.ownsRow_nil _ _ _ _, by omega, by simp⟩, ⟨⟨by simp, by simp, by simp, by simp, by simp, by simp⟩, Or.inl ⟨rfl, _, _, rfl⟩, fun k hk => (by cases hk), by omega, by simp⟩, fun k hk => (by cases hk), by omega⟩, by simp, by omega, by omega, hb5.trans (hbm.mono hb5.size)⟩
  have hwl : w.heap.size ≤ bl := by omega
  have hwm : w.heap.size ≤ w5.heap.size := hb5.size
  clear hlc b1 b2 b3 b4 b5 b5' r0 r1 r2 r3 hb2 hb3 hb4 hb5 hbl hbl1 hbm HQ
  go_loopw [11] (fun si wr => ∃ i : Nat, i ≤ l.length ∧ i ≤ 60 ∧ si = .int .i64 i ∧ PSt w wr (w5.heap.size + 1) bl w5.heap.size k d i) (fun si _ => 60 - (intOf si).toNat)
  case atStart => exact ⟨0, Nat.zero_le _, Nat.zero_le _, rfl, HP.out⟩
  case round =>
    obtain ⟨i, hil, hi60, rfl, xs, ls, v, u, hM, hx6, hls0, hlsi, hB⟩ := hrel
    have hBs := hB.size
    by_cases hlt : i < l.length
    · have hlti : (i : Int) < (l.length : Int) := by omega
      by_cases h60 : i < 60
      · have h60i : (i : Int) < 60 := by omega
        obtain ⟨sb, so, x, rfl, hsb, hx0⟩ := HS.out.at0 hlt
        have hx := (hB.cell (p := ⟨sb, so + i, none⟩) hsb).trans hx0
        have HX0 : Hid (w.cell? ⟨sb, so + i, none⟩ = some (.int .i64 x)) := hx0
        clear hx0
        by_cases hx1 : x = -1
        · subst hx1
          cases xs with
          | nil =>
            obtain ⟨hR, hP⟩ := both_none hM
            have HM2 : Hid (Mid wr (w5.heap.size + 1) bl w5.heap.size k d [] ls v [] ls u) := hM
            have B2 := hB
            have hx2 := HXe.out 5 wr (by decide) hB
            clear hM
            go_wp2_with (first
              | (go_at_call 9; refine hR.mono ?_; rintro e w1 ⟨rfl, rfl⟩; clear hR)
              | (go_at_call 10; refine hP.mono ?_; rintro e w2 ⟨rfl, rfl⟩; clear hP)
              | (go_at_call 6; refine hx2.mono ?_; rintro e w3 ⟨rfl, b3⟩; clear hx2
                 have B3 := B2.trans (b3.mono B2.size)
                 have HM3 : Hid (Mid w3 (w5.heap.size + 1) bl w5.heap.size k d [] ls v [] ls u) := HM2.out.below b3
                 obtain ⟨hpk, ga, cp, rfl, k4, k5, hbm3⟩ := both_peek0 HM3.out)
              | (go_at_call 13; refine hpk.mono ?_; rintro e w4 ⟨rfl, rfl⟩; clear hpk
                 have hh := both_held HM3.out (by simp <;> omega)))
            have SOF : Hid (∀ W, Below w4.heap.size w4 W → W.cell? ⟨w5.heap.size, 4, none⟩ = some (.slice ga 0 cp) ∧ W.cell? ⟨w5.heap.size, 5, none⟩ = some (.int .i64 ls)) := fun W hW => ⟨(hW.cell (p := ⟨w5.heap.size, 4, none⟩) hbm3).trans k4, (hW.cell (p := ⟨w5.heap.size, 5, none⟩) hbm3).trans k5⟩
            go_region_held3 (fun w' => w'.cell? ⟨w5.heap.size, 4, none⟩ = some (.slice ga 0 cp) ∧ w'.cell? ⟨w5.heap.size, 5, none⟩ = some (.int .i64 ls))
              (first
                | (with_reducible exact SOF.out _ (Below.refl _ _).drew)
                | (with_reducible exact SOF.out _ b5)
                | (with_reducible exact SOF.out _ b56))
              (first
                | (go_at_call 15; refine hh.mono ?_; rintro e w7 ⟨ao, cp', rfl, b5, hsm⟩)
                | (go_at_call 14; refine hsm.mono ?_; rintro e w8 ⟨rfl, b6⟩; have b56 := b5.trans (b6.mono b5.size)))
            go_wp2
            go_roundw
            case rel => exact ⟨i + 1, by omega, by omega, by go_num, [], ls, v, _, HM3.out.below b56, by simp <;> omega, by omega, by omega, B3.trans (b56.mono B3.size)⟩
            case measure => simp [intOf]; omega
          | cons z zs =>
            obtain ⟨xs', hx6', hR, hP⟩ := both_some HK.out hM (by simp at hx6; omega) (B := w.heap.size) hBs hwl hwm
            have HPT : Hid (∀ w1 u', w.heap.size ≤ w1.heap.size → Mid w1 (w5.heap.size + 1) bl w5.heap.size k d (z :: zs) ls v xs' ls u' → Calls Tryd.prog 10 #[.pointer (some ⟨bl, 0, none⟩)] w1 (fun e w2 => ∃ v', e = .returned (.tuple #[.int .i64 z, .nilIface]) ∧ Mid w2 (w5.heap.size + 1) bl w5.heap.size k d xs' ls v' xs' ls u' ∧ Below w.heap.size w1 w2)) := hP
            clear hP hM
            cases xs' with
            | nil =>
              go_wp2_with (first
                | (go_at_call 9; refine hR.mono ?_; rintro e w1 ⟨u', rfl, hM1, b1⟩; clear hR
                   have B1 := hB.trans b1
                   have hp := HPT.out w1 u' B1.size hM1; clear HPT hM1)
                | (go_at_call 10; refine hp.mono ?_; rintro e w2 ⟨v', rfl, hM2, b2⟩; clear hp
                   have B2 := B1.trans b2
                   have HM2 : Hid (Mid w2 (w5.heap.size + 1) bl w5.heap.size k d [] ls v' [] ls u') := hM2
                   have hx2 := HX.out w2 B2; clear hM2)
                | (go_at_call 6; refine hx2.mono ?_; rintro e w3 ⟨rfl, b3⟩; clear hx2
                   have B3 := B2.trans (b3.mono B2.size)
                   have HM3 : Hid (Mid w3 (w5.heap.size + 1) bl w5.heap.size k d [] ls v' [] ls u') := HM2.out.below b3
                   obtain ⟨hpk, ga, cp, rfl, k4, k5, hbm3⟩ := both_peek0 HM3.out)
                | (go_at_call 13; refine hpk.mono ?_; rintro e w4 ⟨rfl, rfl⟩; clear hpk
                   have hh := both_held HM3.out (by simp <;> omega)))
              have SOF : Hid (∀ W, Below w4.heap.size w4 W → W.cell? ⟨w5.heap.size, 4, none⟩ = some (.slice ga 0 cp) ∧ W.cell? ⟨w5.heap.size, 5, none⟩ = some (.int .i64 ls)) := fun W hW => ⟨(hW.cell (p := ⟨w5.heap.size, 4, none⟩) hbm3).trans k4, (hW.cell (p := ⟨w5.heap.size, 5, none⟩) hbm3).trans k5⟩
              go_region_held3 (fun w' => w'.cell? ⟨w5.heap.size, 4, none⟩ = some (.slice ga 0 cp) ∧ w'.cell? ⟨w5.heap.size, 5, none⟩ = some (.int .i64 ls))
                (first
                  | (with_reducible exact SOF.out _ (Below.refl _ _).drew)
                  | (with_reducible exact SOF.out _ b5)
                  | (with_reducible exact SOF.out _ b56))
                (first
                  | (go_at_call 15; refine hh.mono ?_; rintro e w7 ⟨ao, cp', rfl, b5, hsm⟩)
                  | (go_at_call 14; refine hsm.mono ?_; rintro e w8 ⟨rfl, b6⟩; have b56 := b5.trans (b6.mono b5.size)))
              go_wp2
              go_roundw
              case rel => exact ⟨i + 1, by omega, by omega, by go_num, [], ls, v', _, HM3.out.below b56, by simp <;> omega, by omega, by omega, B3.trans (b56.mono B3.size)⟩
              case measure => simp [intOf]; omega
            | cons y ys =>
              simp only [List.length_cons] at hx6'
              go_wp2_with (first
                | (go_at_call 9; refine hR.mono ?_; rintro e w1 ⟨u', rfl, hM1, b1⟩; clear hR
                   have B1 := hB.trans b1
                   have hp := HPT.out w1 u' B1.size hM1; clear HPT hM1)
                | (go_at_call 10; refine hp.mono ?_; rintro e w2 ⟨v', rfl, hM2, b2⟩; clear hp
                   have B2 := B1.trans b2
                   have HM2 : Hid (Mid w2 (w5.heap.size + 1) bl w5.heap.size k d (y :: ys) ls v' (y :: ys) ls u') := hM2
                   have hx2 := HX.out w2 B2; clear hM2)
                | (go_at_call 6; refine hx2.mono ?_; rintro e w3 ⟨rfl, b3⟩; clear hx2
                   have B3 := B2.trans (b3.mono B2.size)
                   have HM3 : Hid (Mid w3 (w5.heap.size + 1) bl w5.heap.size k d (y :: ys) ls v' (y :: ys) ls u') := HM2.out.below b3
                   obtain ⟨hpk, g, off, cp, rfl, k4, k5, kx, hbm3, hg3⟩ := both_peek HM3.out)
                | (go_at_call 13; refine hpk.mono ?_; rintro e w4 ⟨rfl, rfl⟩; clear hpk
                   have hh := both_held HM3.out (by simp <;> omega)))
              have SOF : Hid (∀ W, Below w4.heap.size w4 W → W.cell? ⟨w5.heap.size, 4, none⟩ = some (.slice (some ⟨g, off, none⟩) (ys.length + 1) cp) ∧ W.cell? ⟨w5.heap.size, 5, none⟩ = some (.int .i64 ls)) := fun W hW => ⟨(hW.cell (p := ⟨w5.heap.size, 4, none⟩) hbm3).trans k4, (hW.cell (p := ⟨w5.heap.size, 5, none⟩) hbm3).trans k5⟩
              go_region_held3 (fun w' => w'.cell? ⟨w5.heap.size, 4, none⟩ = some (.slice (some ⟨g, off, none⟩) (ys.length + 1) cp) ∧ w'.cell? ⟨w5.heap.size, 5, none⟩ = some (.int .i64 ls))
                (first
                  | (with_reducible exact SOF.out _ (Below.refl _ _).drew)
                  | (with_reducible exact SOF.out _ b5)
                  | (with_reducible exact SOF.out _ b56))
                (first
                  | (go_at_call 15; refine hh.mono ?_; rintro e w7 ⟨ao, cp', rfl, b5, hsm⟩)
                  | (go_at_call 14; refine hsm.mono ?_; rintro e w8 ⟨rfl, b6⟩; have b56 := b5.trans (b6.mono b5.size)))
              go_wp2
              go_roundw
              case rel => exact ⟨i + 1, by omega, by omega, by go_num, (y :: ys), ls, v', _, HM3.out.below b56, by simp <;> omega, by omega, by omega, B3.trans (b56.mono B3.size)⟩
              case measure => simp [intOf]; omega
        · have hx1' : (x == -1) = false := by simpa using hx1
          have hx1'' : decide (x = -1) = false := by simpa using hx1
          by_cases hxr : x < 0 ∨ 999 < x
          · have hP := fun W => send_range (.pointer (some ⟨bl, 0, none⟩)) x W (by omega)
            have hx2 := HXe.out 1 wr (by decide) hB
            have B2 := hB
            cases xs with
            | nil =>
              have HM2 : Hid (Mid wr (w5.heap.size + 1) bl w5.heap.size k d [] ls v [] ls u) := hM
              clear hM
              by_cases hxn : x < 0
              · clear hxr
                go_wp2_with (first
                  | (go_at_call 12; refine (hP _).mono ?_; rintro e w2 ⟨rfl, rfl⟩; clear hP)
                  | (go_at_call 6; refine hx2.mono ?_; rintro e w3 ⟨rfl, b3⟩; clear hx2
                     have B3 := B2.trans (b3.mono B2.size)
                     have HM3 : Hid (Mid w3 (w5.heap.size + 1) bl w5.heap.size k d [] ls v [] ls u) := HM2.out.below b3
                     obtain ⟨hpk, ga, cp, rfl, k4, k5, hbm3⟩ := both_peek0 HM3.out)
                  | (go_at_call 13; refine hpk.mono ?_; rintro e w4 ⟨rfl, rfl⟩; clear hpk
                     have hh := both_held HM3.out (by simp <;> omega)))
                have SOF : Hid (∀ W, Below w4.heap.size w4 W → W.cell? ⟨w5.heap.size, 4, none⟩ = some (.slice ga 0 cp) ∧ W.cell? ⟨w5.heap.size, 5, none⟩ = some (.int .i64 ls)) := fun W hW => ⟨(hW.cell (p := ⟨w5.heap.size, 4, none⟩) hbm3).trans k4, (hW.cell (p := ⟨w5.heap.size, 5, none⟩) hbm3).trans k5⟩
                go_region_held3 (fun w' => w'.cell? ⟨w5.heap.size, 4, none⟩ = some (.slice ga 0 cp) ∧ w'.cell? ⟨w5.heap.size, 5, none⟩ = some (.int .i64 ls))
                  (first
                    | (with_reducible exact SOF.out _ (Below.refl _ _).drew)
                    | (with_reducible exact SOF.out _ b5)
                    | (with_reducible exact SOF.out _ b56))
                  (first
                    | (go_at_call 15; refine hh.mono ?_; rintro e w7 ⟨ao, cp', rfl, b5, hsm⟩)
                    | (go_at_call 14; refine hsm.mono ?_; rintro e w8 ⟨rfl, b6⟩; have b56 := b5.trans (b6.mono b5.size)))
                go_wp2
                go_roundw
                case rel => exact ⟨i + 1, by omega, by omega, by go_num, [], ls, v, _, HM3.out.below b56, by simp <;> omega, by omega, by omega, B3.trans (b56.mono B3.size)⟩
                case measure => simp [intOf]; omega
              · have hxn' : decide (x < 0) = false := by simpa using hxn
                have hx9 : 999 < x := by omega
                clear hxr
                go_wp2_with (first
                  | (go_at_call 12; refine (hP _).mono ?_; rintro e w2 ⟨rfl, rfl⟩; clear hP)
                  | (go_at_call 6; refine hx2.mono ?_; rintro e w3 ⟨rfl, b3⟩; clear hx2
                     have B3 := B2.trans (b3.mono B2.size)
                     have HM3 : Hid (Mid w3 (w5.heap.size + 1) bl w5.heap.size k d [] ls v [] ls u) := HM2.out.below b3
                     obtain ⟨hpk, ga, cp, rfl, k4, k5, hbm3⟩ := both_peek0 HM3.out)
                  | (go_at_call 13; refine hpk.mono ?_; rintro e w4 ⟨rfl, rfl⟩; clear hpk
                     have hh := both_held HM3.out (by simp <;> omega)))
                have SOF : Hid (∀ W, Below w4.heap.size w4 W → W.cell? ⟨w5.heap.size, 4, none⟩ = some (.slice ga 0 cp) ∧ W.cell? ⟨w5.heap.size, 5, none⟩ = some (.int .i64 ls)) := fun W hW => ⟨(hW.cell (p := ⟨w5.heap.size, 4, none⟩) hbm3).trans k4, (hW.cell (p := ⟨w5.heap.size, 5, none⟩) hbm3).trans k5⟩
                go_region_held3 (fun w' => w'.cell? ⟨w5.heap.size, 4, none⟩ = some (.slice ga 0 cp) ∧ w'.cell? ⟨w5.heap.size, 5, none⟩ = some (.int .i64 ls))
                  (first
                    | (with_reducible exact SOF.out _ (Below.refl _ _).drew)
                    | (with_reducible exact SOF.out _ b5)
                    | (with_reducible exact SOF.out _ b56))
                  (first
                    | (go_at_call 15; refine hh.mono ?_; rintro e w7 ⟨ao, cp', rfl, b5, hsm⟩)
                    | (go_at_call 14; refine hsm.mono ?_; rintro e w8 ⟨rfl, b6⟩; have b56 := b5.trans (b6.mono b5.size)))
                go_wp2
                go_roundw
                case rel => exact ⟨i + 1, by omega, by omega, by go_num, [], ls, v, _, HM3.out.below b56, by simp <;> omega, by omega, by omega, B3.trans (b56.mono B3.size)⟩
                case measure => simp [intOf]; omega
            | cons y ys =>
              simp only [List.length_cons] at hx6
              have HM2 : Hid (Mid wr (w5.heap.size + 1) bl w5.heap.size k d (y :: ys) ls v (y :: ys) ls u) := hM
              clear hM
              by_cases hxn : x < 0
              · clear hxr
                go_wp2_with (first
                  | (go_at_call 12; refine (hP _).mono ?_; rintro e w2 ⟨rfl, rfl⟩; clear hP)
                  | (go_at_call 6; refine hx2.mono ?_; rintro e w3 ⟨rfl, b3⟩; clear hx2
                     have B3 := B2.trans (b3.mono B2.size)
                     have HM3 : Hid (Mid w3 (w5.heap.size + 1) bl w5.heap.size k d (y :: ys) ls v (y :: ys) ls u) := HM2.out.below b3
                     obtain ⟨hpk, g, off, cp, rfl, k4, k5, kx, hbm3, hg3⟩ := both_peek HM3.out)
                  | (go_at_call 13; refine hpk.mono ?_; rintro e w4 ⟨rfl, rfl⟩; clear hpk
                     have hh := both_held HM3.out (by simp <;> omega)))
                have SOF : Hid (∀ W, Below w4.heap.size w4 W → W.cell? ⟨w5.heap.size, 4, none⟩ = some (.slice (some ⟨g, off, none⟩) (ys.length + 1) cp) ∧ W.cell? ⟨w5.heap.size, 5, none⟩ = some (.int .i64 ls)) := fun W hW => ⟨(hW.cell (p := ⟨w5.heap.size, 4, none⟩) hbm3).trans k4, (hW.cell (p := ⟨w5.heap.size, 5, none⟩) hbm3).trans k5⟩
                go_region_held3 (fun w' => w'.cell? ⟨w5.heap.size, 4, none⟩ = some (.slice (some ⟨g, off, none⟩) (ys.length + 1) cp) ∧ w'.cell? ⟨w5.heap.size, 5, none⟩ = some (.int .i64 ls))
                  (first
                    | (with_reducible exact SOF.out _ (Below.refl _ _).drew)
                    | (with_reducible exact SOF.out _ b5)
                    | (with_reducible exact SOF.out _ b56))
                  (first
                    | (go_at_call 15; refine hh.mono ?_; rintro e w7 ⟨ao, cp', rfl, b5, hsm⟩)
                    | (go_at_call 14; refine hsm.mono ?_; rintro e w8 ⟨rfl, b6⟩; have b56 := b5.trans (b6.mono b5.size)))
                go_wp2
                go_roundw
                case rel => exact ⟨i + 1, by omega, by omega, by go_num, (y :: ys), ls, v, _, HM3.out.below b56, by simp <;> omega, by omega, by omega, B3.trans (b56.mono B3.size)⟩
                case measure => simp [intOf]; omega
              · have hxn' : decide (x < 0) = false := by simpa using hxn
                have hx9 : 999 < x := by omega
                clear hxr
                go_wp2_with (first
                  | (go_at_call 12; refine (hP _).mono ?_; rintro e w2 ⟨rfl, rfl⟩; clear hP)
                  | (go_at_call 6; refine hx2.mono ?_; rintro e w3 ⟨rfl, b3⟩; clear hx2
                     have B3 := B2.trans (b3.mono B2.size)
                     have HM3 : Hid (Mid w3 (w5.heap.size + 1) bl w5.heap.size k d (y :: ys) ls v (y :: ys) ls u) := HM2.out.below b3
                     obtain ⟨hpk, g, off, cp, rfl, k4, k5, kx, hbm3, hg3⟩ := both_peek HM3.out)
                  | (go_at_call 13; refine hpk.mono ?_; rintro e w4 ⟨rfl, rfl⟩; clear hpk
                     have hh := both_held HM3.out (by simp <;> omega)))
                have SOF : Hid (∀ W, Below w4.heap.size w4 W → W.cell? ⟨w5.heap.size, 4, none⟩ = some (.slice (some ⟨g, off, none⟩) (ys.length + 1) cp) ∧ W.cell? ⟨w5.heap.size, 5, none⟩ = some (.int .i64 ls)) := fun W hW => ⟨(hW.cell (p := ⟨w5.heap.size, 4, none⟩) hbm3).trans k4, (hW.cell (p := ⟨w5.heap.size, 5, none⟩) hbm3).trans k5⟩
                go_region_held3 (fun w' => w'.cell? ⟨w5.heap.size, 4, none⟩ = some (.slice (some ⟨g, off, none⟩) (ys.length + 1) cp) ∧ w'.cell? ⟨w5.heap.size, 5, none⟩ = some (.int .i64 ls))
                  (first
                    | (with_reducible exact SOF.out _ (Below.refl _ _).drew)
                    | (with_reducible exact SOF.out _ b5)
                    | (with_reducible exact SOF.out _ b56))
                  (first
                    | (go_at_call 15; refine hh.mono ?_; rintro e w7 ⟨ao, cp', rfl, b5, hsm⟩)
                    | (go_at_call 14; refine hsm.mono ?_; rintro e w8 ⟨rfl, b6⟩; have b56 := b5.trans (b6.mono b5.size)))
                go_wp2
                go_roundw
                case rel => exact ⟨i + 1, by omega, by omega, by go_num, (y :: ys), ls, v, _, HM3.out.below b56, by simp <;> omega, by omega, by omega, B3.trans (b56.mono B3.size)⟩
                case measure => simp [intOf]; omega
          · have hxn : decide (x < 0) = false := by simp; omega
            have hx9 : decide (999 < x) = false := by simp; omega
            obtain ⟨is, y, ys, ls', hy6, hl1, hl2, hR, hP⟩ := both_send HK.out hM x (by omega) (by omega) hx6 (by omega) (B := w.heap.size) hBs hwl hwm
            have HPS : Hid (∀ w1 u', w.heap.size ≤ w1.heap.size → Mid w1 (w5.heap.size + 1) bl w5.heap.size k d xs ls v (y :: ys) ls' u' → Calls Tryd.prog 12 #[.pointer (some ⟨bl, 0, none⟩), .int .i64 x] w1 (fun e w2 => ∃ v', e = .returned (.tuple #[.bool is, .nilIface]) ∧ Mid w2 (w5.heap.size + 1) bl w5.heap.size k d (y :: ys) ls' v' (y :: ys) ls' u' ∧ Below w.heap.size w1 w2)) := hP
            clear hP hM
            go_wp2_with (first
              | (go_at_call 11; refine hR.mono ?_; rintro e w1 ⟨u', rfl, hM1, b1⟩; clear hR
                 have B1 := hB.trans b1
                 replace hx := (B1.cell (p := ⟨sb, so + i, none⟩) hsb).trans HX0.out
                 have hp := HPS.out w1 u' B1.size hM1; clear HPS hM1)
              | (go_at_call 12; refine hp.mono ?_; rintro e w2 ⟨v', rfl, hM2, b2⟩; clear hp
                 have B2 := B1.trans b2
                 have HM2 : Hid (Mid w2 (w5.heap.size + 1) bl w5.heap.size k d (y :: ys) ls' v' (y :: ys) ls' u') := hM2
                 have hx2 := HX.out w2 B2; clear hM2)
              | (go_at_call 6; refine hx2.mono ?_; rintro e w3 ⟨rfl, b3⟩; clear hx2
                 have B3 := B2.trans (b3.mono B2.size)
                 have HM3 : Hid (Mid w3 (w5.heap.size + 1) bl w5.heap.size k d (y :: ys) ls' v' (y :: ys) ls' u') := HM2.out.below b3
                 obtain ⟨hpk, g, off, cp, rfl, k4, k5, kx, hbm3, hg3⟩ := both_peek HM3.out)
              | (go_at_call 13; refine hpk.mono ?_; rintro e w4 ⟨rfl, rfl⟩; clear hpk
                 have hh := both_held HM3.out (by simp <;> omega)))
            have SOF : Hid (∀ W, Below w4.heap.size w4 W → W.cell? ⟨w5.heap.size, 4, none⟩ = some (.slice (some ⟨g, off, none⟩) (ys.length + 1) cp) ∧ W.cell? ⟨w5.heap.size, 5, none⟩ = some (.int .i64 ls')) := fun W hW => ⟨(hW.cell (p := ⟨w5.heap.size, 4, none⟩) hbm3).trans k4, (hW.cell (p := ⟨w5.heap.size, 5, none⟩) hbm3).trans k5⟩
            go_region_held3 (fun w' => w'.cell? ⟨w5.heap.size, 4, none⟩ = some (.slice (some ⟨g, off, none⟩) (ys.length + 1) cp) ∧ w'.cell? ⟨w5.heap.size, 5, none⟩ = some (.int .i64 ls'))
              (first
                | (with_reducible exact SOF.out _ (Below.refl _ _).drew)
                | (with_reducible exact SOF.out _ b5)
                | (with_reducible exact SOF.out _ b56))
              (first
                | (go_at_call 15; refine hh.mono ?_; rintro e w7 ⟨ao, cp', rfl, b5, hsm⟩)
                | (go_at_call 14; refine hsm.mono ?_; rintro e w8 ⟨rfl, b6⟩; have b56 := b5.trans (b6.mono b5.size)))
            go_wp2
            go_roundw
            case rel => exact ⟨i + 1, by omega, by omega, by go_num, (y :: ys), ls', v', _, HM3.out.below b56, by simp <;> omega, by omega, by omega, B3.trans (b56.mono B3.size)⟩
            case measure => simp [intOf]; omega
      · have h60i : decide ((i : Int) < 60) = false := by simp; omega
        clear hM
        go_wp2
        go_ret
        exact ⟨rfl, hB⟩
    · have hlti : decide ((i : Int) < (l.length : Int)) = false := by simp; omega
      have hltn : decide (i < l.length) = false := by simp; omega
      clear hM
      go_wp2
      go_ret
      exact ⟨rfl, hB⟩
theorem play_any (f t k d : Int) (l : List Int) (sv : Value) (w : World) (hE : ErrT w) (hs : Stp w sv l) :
    Calls Tryd.prog 3 #[wV f t k d, sv] w fun ev w' => ev = .returned (.bool true) ∧ Below w.heap.size w w' := by
  by_cases h : wchk f t k d = 0
  · exact play_ok f t k d l sv w hE hs h
  · exact play_bad f t k d sv w hE h
end Go.Proofs.YtfconbblnmbnpacDoor
