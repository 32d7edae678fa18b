/-
  FHold, Law, Trod: joined into one text.
-/
import Derived.Test.YtajfgmlockjmhaiGreatDoorJt1
import Derived.Test.YtajfgmlockjmhaiGreatDoorRows
import Derived.ProofKit
import Derived.LaidMore
import Derived.OpenShut
import Derived.Carry
import Derived.Stop.Joined
namespace Go.Proofs.YtajfgmlockjmhaiGreatDoor
open Go.RowKit

set_option maxRecDepth 100000 in
set_option maxHeartbeats 1000000 in
theorem hit_any (s : S3) (tb : Nat) (t : Int) (w : World) (ht : w.cell? ⟨tb, 0, none⟩ = some (.int .i64 t)) :
    Calls Tryz.prog 154 #[.agg #[.int .i64 s.1, .int .i64 s.2.1, .int .i64 s.2.2], .pointer (some ⟨tb, 0, none⟩)] w fun e w' => e = .returned (.bool (hits t s)) ∧ Below w.heap.size w w' := by
  have hlt := ltc ht
  have hn : tb ≠ w.heap.size := by omega
  obtain ⟨a, b, r⟩ := s
  simp only
  by_cases h1 : a ≤ t
  · by_cases h2 : t < b
    · have HF : Hid (hits t (a, b, r) = true) := by show _ = _; simp [hits, h1, h2]
      go_enter Tryz.func154, Tryz.ntmps154
      go_wp2
      go_ret
      exact ⟨retB HF.out.symm, (Below.refl _ _).alloc (Nat.le_refl _) _⟩
    · have h2' : decide (t < b) = false := by simpa using h2
      have HF : Hid (hits t (a, b, r) = false) := by show _ = _; simp [hits, h2]
      go_enter Tryz.func154, Tryz.ntmps154
      go_wp2
      go_ret
      exact ⟨retB HF.out.symm, (Below.refl _ _).alloc (Nat.le_refl _) _⟩
  · have h1' : decide (a ≤ t) = false := by simpa using h1
    have HF : Hid (hits t (a, b, r) = false) := by show _ = _; simp [hits, h1]
    go_enter Tryz.func154, Tryz.ntmps154
    go_wp2
    go_ret
    exact ⟨retB HF.out.symm, (Below.refl _ _).alloc (Nat.le_refl _) _⟩

theorem hidx_some {l : List S3} {t : Int} {k : Nat} (h : l.findIdx? (hits t) = some k) : hidx l t = k := by unfold hidx; rw [h]
theorem hidx_none {l : List S3} {t : Int} (h : l.findIdx? (hits t) = none) : hidx l t = -1 := by unfold hidx; rw [h]

set_option maxRecDepth 100000 in
set_option maxHeartbeats 2000000 in
theorem idxHold (l : List S3) (t : Int) (b off cap tb : Nat) (w : World) (ht : w.cell? ⟨tb, 0, none⟩ = some (.int .i64 t)) (hlen : l.length ≤ 12) (hlt : b < w.heap.size) (hc : SpC w b off l) :
    Calls Tryz.prog 135 #[.slice (some ⟨b, off, none⟩) l.length cap, .func (.func 154) #[] #[.pointer (some ⟨tb, 0, none⟩)]] w fun e w' =>
      e = .returned (.int .i64 (hidx l t)) ∧ Below w.heap.size w w' := by
  have hlt1 := ltc ht
  go_enter Tryz.func135, Tryz.ntmps135
  go_wp2
  go_loopw [8] (fun i wr => ∃ k : Nat, k ≤ l.length ∧ i = .int .i64 k ∧ (∀ (j : Nat) x, j < k → l[j]? = some x → hits t x = false) ∧ Below w.heap.size w wr) (fun i _ => l.length - (intOf i).toNat)
  case atStart => exact ⟨0, Nat.zero_le _, rfl, fun j x hj => by omega, Below.refl _ _⟩
  case round =>
    obtain ⟨k, hk, rfl, hall, hb⟩ := hrel
    have e1 : wr.cell? ⟨tb, 0, none⟩ = some (.int .i64 t) := (hb.cell (p := ⟨tb, 0, none⟩) hlt1).trans ht
    have Hall : Hid (∀ (j : Nat) x, j < k → l[j]? = some x → hits t x = false) := hall
    clear hall
    by_cases hkl : k < l.length
    · obtain ⟨o, ho⟩ : ∃ o, l[k]? = some o := ⟨l[k], List.getElem?_eq_getElem hkl⟩
      have HO : Hid (l[k]? = some o) := ho
      obtain ⟨c0, c1, c2⟩ := hc.below hb hlt k o ho
      clear ho
      have hon := hit_any o tb t wr e1
      clear e1
      cases hok : hits t o with
      | false =>
        have HN : Hid (hits t o = false) := hok
        rw [hok] at hon
        clear hok
        go_wp2_with (go_at_call 154; refine hon.mono ?_; rintro e w1 ⟨rfl, b1⟩; clear hon)
        go_roundw
        case rel =>
          refine ⟨k + 1, by omega, by go_num, fun j x hj hx => ?_, hb.trans (b1.mono hb.size)⟩
          by_cases hjk : j < k
          · exact Hall.out j x hjk hx
          · obtain rfl : j = k := by omega
            rw [HO.out] at hx
            obtain rfl := Option.some.inj hx
            exact HN.out
        case measure => simp [intOf]; omega
      | true =>
        have HF : Hid (l.findIdx? (hits t) = some k) := fidx_hit Hall.out HO.out hok
        rw [hok] at hon
        clear hok
        go_wp2_with (go_at_call 154; refine hon.mono ?_; rintro e w1 ⟨rfl, b1⟩; clear hon)
        go_ret
        exact ⟨retI (hidx_some HF.out).symm, hb.trans (b1.mono hb.size)⟩
    · have HF : Hid (l.findIdx? (hits t) = none) := fidx_miss (fun i x hi hx => Hall.out i x (by omega) hx)
      clear e1
      go_wp2
      go_ret
      exact ⟨retI (hidx_none HF.out).symm, hb⟩
set_option maxRecDepth 100000 in
set_option maxHeartbeats 2000000 in
theorem idxHold_nil (fn : Value) (a : Option Addr) (cap : Nat) (w : World) :
    Calls Tryz.prog 135 #[.slice a 0 cap, fn] w fun e w' => e = .returned (.int .i64 (-1)) ∧ Below w.heap.size w w' := by
  go_enter Tryz.func135, Tryz.ntmps135
  go_wp2
  refine wp_loop_rounds 1 ?_
  rw [rounds_succ]
  go_wp2
  go_ret
  exact ⟨rfl, Below.refl _ _⟩

set_option maxRecDepth 100000 in
set_option maxHeartbeats 2000000 in
theorem holder_nil (a : Option Addr) (cap : Nat) (t : Int) (w : World) :
    Calls Tryz.prog 117 #[.slice a 0 cap, .int .i64 t] w fun e w' => e = .returned (.int .i64 (-1)) ∧ Below w.heap.size w w' := by
  have hI := fun fn W => idxHold_nil fn a cap W
  go_enter Tryz.func117, Tryz.ntmps117
  go_wp2_with (go_at_call 135; refine (hI _ _).mono ?_; rintro e w1 ⟨rfl, b1⟩; clear hI)
  go_ret
  exact ⟨rfl, ((Below.refl _ _).alloc (Nat.le_refl _) _).trans (b1.mono (by simp))⟩
set_option maxRecDepth 100000 in
set_option maxHeartbeats 2000000 in
theorem holder_some (l : List S3) (b off cap : Nat) (t : Int) (w : World) (hlen : l.length ≤ 12) (hlt : b < w.heap.size) (hc : SpC w b off l) :
    Calls Tryz.prog 117 #[.slice (some ⟨b, off, none⟩) l.length cap, .int .i64 t] w fun e w' => e = .returned (.int .i64 (hold l t)) ∧ Below w.heap.size w w' := by
  have b0 : Below w.heap.size w (w.alloc (.cells #[.int .i64 t] 3)) := (Below.refl _ _).alloc (Nat.le_refl _) _
  have hI := idxHold l t b off cap w.heap.size (w.alloc (.cells #[.int .i64 t] 3)) (by simp) hlen (Nat.lt_of_lt_of_le hlt b0.size) (hc.below b0 hlt)
  cases hfi : l.findIdx? (hits t) with
  | none =>
    have HF : Hid (hold l t = -1) := hold_none hfi
    rw [hidx_none hfi] at hI
    clear hfi
    go_enter Tryz.func117, Tryz.ntmps117
    go_wp2_with (go_at_call 135; refine hI.mono ?_; rintro e w1 ⟨rfl, b1⟩; clear hI)
    go_ret
    exact ⟨retI HF.out.symm, b0.trans (b1.mono (by simp))⟩
  | some k =>
    have hk : k < l.length := by
      rw [List.findIdx?_eq_some_iff_getElem] at hfi
      exact hfi.1
    obtain ⟨o, ho⟩ : ∃ o, l[k]? = some o := ⟨l[k], List.getElem?_eq_getElem hk⟩
    have HF : Hid (hold l t = o.2.2) := hold_some hfi ho
    rw [hidx_some hfi] at hI
    obtain ⟨c0, c1, c2⟩ := hc.below b0 hlt k o ho
    have hlt' : b < (w.alloc (.cells #[.int .i64 t] 3)).heap.size := Nat.lt_of_lt_of_le hlt b0.size
    clear hfi ho
    go_enter Tryz.func117, Tryz.ntmps117
    go_wp2_with (go_at_call 135; refine hI.mono ?_; rintro e w1 ⟨rfl, b1⟩; clear hI; have d2 := (b1.cell (p := ⟨b, _, none⟩) hlt').trans c2; clear c0 c1 c2)
    go_ret
    exact ⟨retI HF.out.symm, b0.trans (b1.mono (by simp))⟩
theorem holder_any (l : List S3) (v : Value) (t : Int) (w : World) (hl : Sps w v l) (hlen : l.length ≤ 12) :
    Calls Tryz.prog 117 #[v, .int .i64 t] w fun e w' => e = .returned (.int .i64 (hold l t)) ∧ Below w.heap.size w w' := by
  rcases hl with ⟨rfl, ao, cap, rfl⟩ | ⟨b, off, cap, rfl, _, hlt, hc⟩
  · exact holder_nil ao cap t w
  · exact holder_some l b off cap t w hlen hlt hc
end Go.Proofs.YtajfgmlockjmhaiGreatDoor
namespace Go.Proofs.YtajfgmlockjmhaiGreatDoor
open Go.ChangeShapes Go.WideShapes Go.ChangeAt Go.WideElems Go.RowKit

theorem own : ownKnob Tryz.prog.godebug = none := by kernel_rfl
theorem laidOut : laidOutB Tryz.prog = true := by kernel_rfl
theorem trodAll_below {H : Type} {enc : TypeId × Value → H} {P : Program} (hlo : laidOutB P = true) {W W' : World} (hb : Below W.heap.size W W') (ts : List TypeId) : ∀ {vs : List Value} {ds : List (DataW H)} {ps : List MemPlace},
    (ts.all fun t => P.readableRec t && decide (t < P.types.size)) = true → DataW.TrodAll enc P W 0 (fun _ => true) true ts vs ds ps → (∀ x ∈ ps, x.block < W.heap.size) →
    DataW.TrodAll enc P W' 0 (fun b => decide (b < W.heap.size)) true ts vs ds ps := by
  induction ts with
  | nil =>
    intro vs ds ps _ h _
    cases vs <;> cases ds <;> exact h
  | cons t ts ih =>
    intro vs ds ps ht h hl
    cases vs with
    | nil => exact h.elim
    | cons v vs =>
      cases ds with
      | nil => exact h.elim
      | cons d ds =>
        obtain ⟨p, q, h1, h2, rfl⟩ := h
        simp only [List.all_cons, Bool.and_eq_true, decide_eq_true_eq] at ht
        exact ⟨p, q, Below.trod hlo ht.1.1 ht.1.2 h1 hb (fun x hx => hl x (by simp [hx])), ih (by simpa using ht.2) h2 (fun x hx => hl x (by simp [hx])), rfl⟩

theorem law_post {H : Type} {enc : TypeId × Value → H} {f : Func} {s : ChangeSpec} {W W' : World} {args : Array Value} {ds gs : List (DataW H)} {before : List MemPlace}
    (hf : f.resultTypes = #[4]) (hts : (f.params.toList.all fun t => Tryz.prog.readableRec t && decide (t < Tryz.prog.types.size)) = true) (hsv : s.vars = [])
    (hW : DataW.Whole enc Tryz.prog f.params.toList s.vars false W args.toList ds gs before) (hs : s.fn H (ds ++ gs) = { results := [.lit (.bool true)], args := ds }) (hb : Below W.heap.size W W') :
    s.post enc Tryz.prog f false true false false W args (.bool true) W' := by
  have hW' := hW
  obtain ⟨p, q, hA, hV, rfl, hfz, hnd⟩ := hW
  have hlt : ∀ x ∈ p, x.block < W.heap.size := fun x hx => by simpa using hW'.lt x (by simp [hx])
  refine ⟨ds, gs, p ++ q, [], p, [], hW', ?_, ?_, ?_, hb.frame _, fun h => by cases h⟩
  · rw [hs, hf]
    exact trodAll_cons_mk (shut_bool Tryz.underlying4 _) trodAll_mk0
  · rw [hs]
    exact trodAll_below laidOut hb _ hts hA hlt
  · rw [hs, hsv]
    rfl
end Go.Proofs.YtajfgmlockjmhaiGreatDoor
namespace Go.Proofs.YtajfgmlockjmhaiGreatDoor
open Go.ChangeShapes

theorem trodAll_five {H : Type} {enc : TypeId × Value → H} {P : Program} {w : World} {base : Nat} {spare : Nat → Bool} {held : Bool} {t0 t1 t2 t3 t4 : TypeId} {args : Array Value} {ds : List (DataW H)} {ps : List MemPlace} (h : DataW.TrodAll enc P w base spare held [t0, t1, t2, t3, t4] args.toList ds ps) :
    ∃ v0 v1 v2 v3 v4 d0 d1 d2 d3 d4 p0 p1 p2 p3 p4, args = #[v0, v1, v2, v3, v4] ∧ ds = [d0, d1, d2, d3, d4] ∧ DataW.Trod enc P w base spare held t0 v0 d0 p0 ∧ DataW.Trod enc P w base spare held t1 v1 d1 p1 ∧ DataW.Trod enc P w base spare held t2 v2 d2 p2 ∧ DataW.Trod enc P w base spare held t3 v3 d3 p3 ∧ DataW.Trod enc P w base spare held t4 v4 d4 p4 := by
  obtain ⟨v0, vs0, d0, ds0, p0, q0, hargs, rfl, rfl, h0, r0⟩ := trodAll_cons h
  obtain ⟨v1, vs1, d1, ds1, p1, q1, rfl, rfl, rfl, h1, r1⟩ := trodAll_cons r0
  obtain ⟨v2, vs2, d2, ds2, p2, q2, rfl, rfl, rfl, h2, r2⟩ := trodAll_cons r1
  obtain ⟨v3, vs3, d3, ds3, p3, q3, rfl, rfl, rfl, h3, r3⟩ := trodAll_cons r2
  obtain ⟨v4, vs4, d4, ds4, p4, q4, rfl, rfl, rfl, h4, r4⟩ := trodAll_cons r3
  obtain ⟨rfl, rfl, rfl⟩ := trodAll_nil r4
  exact ⟨v0, v1, v2, v3, v4, d0, d1, d2, d3, d4, p0, p1, p2, p3, p4, by cases args; simp_all, rfl, h0, h1, h2, h3, h4⟩
end Go.Proofs.YtajfgmlockjmhaiGreatDoor
