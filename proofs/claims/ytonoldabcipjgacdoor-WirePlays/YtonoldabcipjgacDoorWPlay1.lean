/-
  The law WirePlays: what both lines do, side by side.
-/
import Derived.Test.YtonoldabcipjgacDoorWPlay0
namespace Go.Proofs.YtonoldabcipjgacDoor
open Go.RowKit

/-- The kinds that may be. -/
def Kd (k d : Int) : Prop := (k = 1 ∧ d = 1) ∨ (k = 2 ∧ 1 ≤ d ∧ d ≤ 6)
theorem both_send {w : World} {base bl bm : Nat} {k d ls : Int} {xs : List Int} {v u : Value} (hk : Kd k d) (h : Mid w base bl bm k d xs ls v xs ls u) (n : Int) (hn0 : 0 ≤ n) (hn1 : n < 1000) (hx : xs.length ≤ 6) (hls : 0 ≤ ls ∧ ls < 1000) {B : Nat} (hB : B ≤ w.heap.size) (hl : B ≤ bl) (hm : B ≤ bm) :
    ∃ (is : Bool) (x : Int) (t : List Int) (ls' : Int), t.length < 6 ∧ ls ≤ ls' ∧ ls' ≤ ls + 1 ∧
      Calls Tryd.prog 10 #[.pointer (some ⟨bm, 0, none⟩), .int .i64 n] w (fun e w1 => ∃ u', e = .returned (.bool is) ∧ Mid w1 base bl bm k d xs ls v (x :: t) ls' u' ∧ Below B w w1) ∧
      ∀ w1 u', B ≤ w1.heap.size → Mid w1 base bl bm k d xs ls v (x :: t) ls' u' → Calls Tryd.prog 11 #[.pointer (some ⟨bl, 0, none⟩), .int .i64 n] w1 (fun e w2 => ∃ v', e = .returned (.tuple #[.bool is, .nilIface]) ∧ Mid w2 base bl bm k d (x :: t) ls' v' (x :: t) ls' u' ∧ Below B w1 w2) := by
  rcases hk with ⟨rfl, rfl⟩ | ⟨rfl, hd1, hd6⟩
  · refine ⟨true, n, [], ls, by simp, by omega, by omega, (rsend_sample base bm 1 xs ls u n w h.r).mono fun e w1 ⟨u', he, hR, hT⟩ => ⟨u', he, h.stepR hR hT, hT.below hm hB⟩, fun w1 u' hB1 h1 => ?_⟩
    exact (send_sample base bl xs ls v n w1 hn0 hn1 h1.p).mono fun e w2 ⟨v', he, hL, hT⟩ => ⟨v', he, h1.stepP hL hT, hT.below hl (h1.p.own (Nat.le_trans hl (Nat.le_of_lt h1.p.lt))) hB1⟩
  · by_cases hr : (xs.length : Int) < d
    · obtain ⟨x, t, hxt⟩ : ∃ x t, xs ++ [n] = x :: t := by
        cases xs with
        | nil => exact ⟨n, [], rfl⟩
        | cons a r => exact ⟨a, r ++ [n], rfl⟩
      have hlen : t.length < 6 := by
        have := congrArg List.length hxt
        simp at this
        omega
      refine ⟨true, x, t, ls, hlen, by omega, by omega, (rsend_room base bm d xs ls u n w h.r hr (by omega)).mono fun e w1 ⟨u', he, hR, hT⟩ => ⟨u', he, h.stepR (hxt ▸ hR) hT, hT.below hm hB⟩, fun w1 u' hB1 h1 => ?_⟩
      exact (send_room base bl d xs ls v n w1 hn0 hn1 h1.p hr (by omega)).mono fun e w2 ⟨v', he, hL, hT⟩ => ⟨v', he, h1.stepP (hxt ▸ hL) hT, hT.below hl (h1.p.own (Nat.le_trans hl (Nat.le_of_lt h1.p.lt))) hB1⟩
    · cases xs with
      | nil => simp at hr; omega
      | cons x t =>
        refine ⟨false, x, t, ls + 1, by simp at hx; omega, by omega, by omega, (rsend_full base bm d (x :: t) ls u n w (by omega) h.r (by omega)).mono fun e w1 ⟨he, hR, hT⟩ => ⟨u, he, h.stepR hR hT, hT.below hm hB⟩, fun w1 u' hB1 h1 => ?_⟩
        exact (send_full base bl d (x :: t) ls v n w1 hn0 hn1 (by omega) h1.p (by omega)).mono fun e w2 ⟨he, hL, hT⟩ => ⟨v, he, h1.stepP hL hT, hT.below hl (h1.p.own (Nat.le_trans hl (Nat.le_of_lt h1.p.lt))) hB1⟩
theorem both_none {w : World} {base bl bm : Nat} {k d ls : Int} {v u : Value} (h : Mid w base bl bm k d [] ls v [] ls u) :
    Calls Tryd.prog 8 #[.pointer (some ⟨bm, 0, none⟩)] w (fun e w1 => e = .returned (.tuple #[.int .i64 0, .bool false]) ∧ w1 = w) ∧
    Calls Tryd.prog 9 #[.pointer (some ⟨bl, 0, none⟩)] w (fun e w1 => e = .returned (.tuple #[.int .i64 0, .iface 48 (.int .i64 5)]) ∧ w1 = w) := by
  refine ⟨rtake_none base bm k d ls u w h.r, ?_⟩
  obtain ⟨va, vc, rfl⟩ : ∃ va vc, v = .slice va 0 vc := by
    rcases h.p.form with ⟨rfl, _⟩ | ⟨g, cap', rfl⟩
    · exact ⟨_, _, rfl⟩
    · exact ⟨_, _, rfl⟩
  exact take_none bl k d ls va vc w h.p.c
theorem Ln.head {w : World} {base b : Nat} {kd dp ls : Int} {x : Int} {t : List Int} {v : Value} (h : Ln w base b kd dp (x :: t) ls v) : ∃ g cap, v = .slice (some ⟨g, 0, none⟩) (t.length + 1) cap ∧ w.cell? ⟨g, 0, none⟩ = some (.int .i64 x) := by
  rcases h.form with ⟨_, h0⟩ | ⟨g, cap, rfl⟩
  · cases h0
  · exact ⟨g, cap, rfl, (own_cap h.row).2.2.2.2.1 0 _ rfl⟩
theorem both_some {w : World} {base bl bm : Nat} {k d ls x : Int} {t : List Int} {v u : Value} (hk : Kd k d) (h : Mid w base bl bm k d (x :: t) ls v (x :: t) ls u) (hx : t.length < 6) {B : Nat} (hB : B ≤ w.heap.size) (hl : B ≤ bl) (hm : B ≤ bm) :
    ∃ xs', xs'.length ≤ 6 ∧
      Calls Tryd.prog 8 #[.pointer (some ⟨bm, 0, none⟩)] w (fun e w1 => ∃ u', e = .returned (.tuple #[.int .i64 x, .bool true]) ∧ Mid w1 base bl bm k d (x :: t) ls v xs' ls u' ∧ Below B w w1) ∧
      ∀ w1 u', B ≤ w1.heap.size → Mid w1 base bl bm k d (x :: t) ls v xs' ls u' → Calls Tryd.prog 9 #[.pointer (some ⟨bl, 0, none⟩)] w1 (fun e w2 => ∃ v', e = .returned (.tuple #[.int .i64 x, .nilIface]) ∧ Mid w2 base bl bm k d xs' ls v' xs' ls u' ∧ Below B w1 w2) := by
  rcases hk with ⟨rfl, rfl⟩ | ⟨rfl, hd1, hd6⟩
  · refine ⟨x :: t, by simp; omega, (rtake_sample base bm 1 x t ls u w h.r).mono fun e w1 ⟨he, hw⟩ => ⟨u, he, by rw [hw]; exact h, by rw [hw]; exact Below.refl _ _⟩, fun w1 u' hB1 h1 => ?_⟩
    obtain ⟨g, cap, hv, hg⟩ := h1.p.head
    have hc := h1.p.c
    rw [hv] at hc
    exact (take_sample bl 1 ls g (t.length + 1) cap x w1 hc (by omega) hg).mono fun e w2 ⟨he, hw⟩ => ⟨v, he, by rw [hw]; exact h1, by rw [hw]; exact Below.refl _ _⟩
  · refine ⟨t, by omega, (rtake_queue base bm d x t ls u w h.r).mono fun e w1 ⟨u', he, hR, hT⟩ => ⟨u', he, h.stepR hR hT, hT.below hm hB⟩, fun w1 u' hB1 h1 => ?_⟩
    exact (take_queue base bl d ls x t v w1 h1.p).mono fun e w2 ⟨v', he, hL, hT⟩ => ⟨v', he, h1.stepP hL hT, hT.below hl (h1.p.own (Nat.le_trans hl (Nat.le_of_lt h1.p.lt))) hB1⟩
/-- What is asked behind each step: of lines that are the same. -/
theorem both_held {w : World} {base bl bm : Nat} {k d ls : Int} {xs : List Int} {v u : Value} (h : Mid w base bl bm k d xs ls v xs ls u) (hx : xs.length ≤ 6) :
    Calls Tryd.prog 14 #[.pointer (some ⟨bl, 0, none⟩)] w.drew (fun e w3 => ∃ ao cap, e = .returned (.agg #[.slice ao xs.length cap, .int .i64 ls]) ∧ Below w.heap.size w w3 ∧
      Calls Tryd.prog 13 #[.agg #[.slice ao xs.length cap, .int .i64 ls], .agg #[u, .int .i64 ls]] w3 (fun e w4 => e = .returned (.bool true) ∧ Below w3.heap.size w3 w4)) := by
  have hd : Below w.heap.size w w.drew := (Below.refl _ _).drew
  have h' := h.below hd
  refine (held_any base bl k d xs ls v w.drew (by omega) h'.p).mono fun e w3 ⟨ao, cap, he, hown, hb⟩ => ⟨ao, cap, he, hd.trans hb, ?_⟩
  exact wheld_any _ _ xs ls w3 (Rd.own hown) (h'.r.rd.all hb) (by omega)
theorem both_peek {w : World} {base bl bm : Nat} {k d ls x : Int} {t : List Int} {v u : Value} (h : Mid w base bl bm k d (x :: t) ls v (x :: t) ls u) :
    Calls Tryd.prog 12 #[.pointer (some ⟨bl, 0, none⟩)] w (fun e w1 => e = .returned (.tuple #[.int .i64 x, .bool true]) ∧ w1 = w) ∧
    ∃ g off cap, u = .slice (some ⟨g, off, none⟩) (t.length + 1) cap ∧ w.cell? ⟨bm, 4, none⟩ = some (.slice (some ⟨g, off, none⟩) (t.length + 1) cap) ∧ w.cell? ⟨bm, 5, none⟩ = some (.int .i64 ls) ∧ w.cell? ⟨g, off, none⟩ = some (.int .i64 x) ∧ bm < w.heap.size ∧ g < w.heap.size := by
  obtain ⟨g, cap, hv, hg⟩ := h.p.head
  have hc := h.p.c
  rw [hv] at hc
  obtain ⟨g', off, cap', hu, h1, h2, h3, h4, _⟩ := h.r.rd.cons
  obtain ⟨c0, c1, c2, c3, f2, f3⟩ := h.r.c
  rw [hu] at c2
  exact ⟨peek_some bl k d ls g (t.length + 1) cap x w hc (by omega) hg, g', off, cap', hu, c2, c3, h4, h.r.c.lt, h3⟩
theorem both_peek0 {w : World} {base bl bm : Nat} {k d ls : Int} {v u : Value} (h : Mid w base bl bm k d [] ls v [] ls u) :
    Calls Tryd.prog 12 #[.pointer (some ⟨bl, 0, none⟩)] w (fun e w1 => e = .returned (.tuple #[.int .i64 0, .bool false]) ∧ w1 = w) ∧
    ∃ ao cap, u = .slice ao 0 cap ∧ w.cell? ⟨bm, 4, none⟩ = some (.slice ao 0 cap) ∧ w.cell? ⟨bm, 5, none⟩ = some (.int .i64 ls) ∧ bm < w.heap.size := by
  obtain ⟨va, vc, hv⟩ : ∃ va vc, v = .slice va 0 vc := by
    rcases h.p.form with ⟨rfl, _⟩ | ⟨g, cap', rfl⟩
    · exact ⟨_, _, rfl⟩
    · exact ⟨_, _, rfl⟩
  have hc := h.p.c
  rw [hv] at hc
  obtain ⟨ao, cap, hu⟩ := h.r.rd.form
  obtain ⟨c0, c1, c2, c3, f2, f3⟩ := h.r.c
  rw [hu] at c2
  exact ⟨peek_none bl k d ls va vc w hc, ao, cap, hu, c2, c3, h.r.c.lt⟩
end Go.Proofs.YtonoldabcipjgacDoor
