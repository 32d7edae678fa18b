/-
  SuOf, Wires, WiresTop, SuRowOf: joined into one text.
-/
import Derived.Test.YtfconbblnmbnpahDoorJa1
import Derived.Test.YtfconbblnmbnpahDoorJa4
import Derived.Deep.CutRange
import Derived.Test.YtfconbblnmbnpahDoorJa3
import Derived.OwnWalk
import Derived.Deep.RegionWith
import Derived.RangeFuncNested
namespace Go.Proofs.YtfconbblnmbnpahDoor
open Go.RowKit

set_option maxRecDepth 100000 in
set_option maxHeartbeats 1000000 in
theorem sumine_any (s : S3) (rb tb : Nat) (r t : Int) (w : World) (hr : w.cell? ⟨rb, 0, none⟩ = some (.int .i64 r)) (ht : w.cell? ⟨tb, 0, none⟩ = some (.int .i64 t)) :
    Calls Tryd.prog 24 #[.agg #[.int .i64 s.1, .int .i64 s.2.1, .int .i64 s.2.2], .pointer (some ⟨rb, 0, none⟩), .pointer (some ⟨tb, 0, none⟩)] w fun e w' => e = .returned (.bool (mine r t s)) ∧ Below w.heap.size w w' := by
  have hlt := ltc ht
  have hlr := ltc hr
  have hn : tb ≠ w.heap.size := by omega
  have hn2 : rb ≠ w.heap.size := by omega
  obtain ⟨a, b, q⟩ := s
  simp only
  cases h0 : (q == r) with
  | false =>
    have HF : Hid (mine r t (a, b, q) = false) := by
      show _ = _
      have : ¬ q = r := fun e => by rw [e] at h0; simp at h0
      simp [mine, this]
    go_enter Tryd.func24, Tryd.ntmps24
    go_wp2
    go_ret
    exact ⟨retB HF.out.symm, (Below.refl _ _).alloc (Nat.le_refl _) _⟩
  | true =>
    have hqr := eq_of_beq h0
    by_cases h1 : a ≤ t
    · by_cases h2 : t < b
      · have HF : Hid (mine r t (a, b, q) = true) := by show _ = _; simp [mine, h1, h2, hqr]
        clear hqr
        go_enter Tryd.func24, Tryd.ntmps24
        go_wp2
        go_ret
        exact ⟨retB HF.out.symm, (Below.refl _ _).alloc (Nat.le_refl _) _⟩
      · have h2' : decide (t < b) = false := by simpa using h2
        have HF : Hid (mine r t (a, b, q) = false) := by show _ = _; simp [mine, h2]
        clear hqr
        go_enter Tryd.func24, Tryd.ntmps24
        go_wp2
        go_ret
        exact ⟨retB HF.out.symm, (Below.refl _ _).alloc (Nat.le_refl _) _⟩
    · have h1' : decide (a ≤ t) = false := by simpa using h1
      have HF : Hid (mine r t (a, b, q) = false) := by show _ = _; simp [mine, h1]
      clear hqr
      go_enter Tryd.func24, Tryd.ntmps24
      go_wp2
      go_ret
      exact ⟨retB HF.out.symm, (Below.refl _ _).alloc (Nat.le_refl _) _⟩
set_option maxRecDepth 100000 in
set_option maxHeartbeats 2000000 in
theorem idxMine (l : List S3) (r t : Int) (b off cap rb tb : Nat) (w : World) (k0 : w.cell? ⟨rb, 0, none⟩ = some (.int .i64 r)) (k1 : w.cell? ⟨tb, 0, none⟩ = some (.int .i64 t)) (hlen : l.length ≤ 12) (hlt : b < w.heap.size) (hc : SpC w b off l) :
    Calls Tryd.prog 40 #[.slice (some ⟨b, off, none⟩) l.length cap, .func (.func 24) #[] #[.pointer (some ⟨rb, 0, none⟩), .pointer (some ⟨tb, 0, none⟩)]] w fun e w' =>
      (∃ q : Int, e = .returned (.int .i64 q) ∧ decide (0 ≤ q) = l.any (mine r t)) ∧ Below w.heap.size w w' := by
  have hlt0 := ltc k0
  have hlt1 := ltc k1
  go_enter Tryd.func40, Tryd.ntmps40
  go_wp2
  go_loopw [8] (fun i wr => ∃ k : Nat, k ≤ l.length ∧ i = .int .i64 k ∧ (∀ (j : Nat) x, j < k → l[j]? = some x → mine r t x = false) ∧ Below w.heap.size w wr) (fun i _ => l.length - (intOf i).toNat)
  case atStart => exact ⟨0, Nat.zero_le _, rfl, fun j x hj => by omega, Below.refl _ _⟩
  case round =>
    obtain ⟨k, hk, rfl, hall, hb⟩ := hrel
    have e0 : wr.cell? ⟨rb, 0, none⟩ = some (.int .i64 r) := (hb.cell (p := ⟨rb, 0, none⟩) hlt0).trans k0
    have e1 : wr.cell? ⟨tb, 0, none⟩ = some (.int .i64 t) := (hb.cell (p := ⟨tb, 0, none⟩) hlt1).trans k1
    have Hall : Hid (∀ (j : Nat) x, j < k → l[j]? = some x → mine r t x = false) := hall
    clear hall
    by_cases hkl : k < l.length
    · obtain ⟨o, ho⟩ : ∃ o, l[k]? = some o := ⟨l[k], List.getElem?_eq_getElem hkl⟩
      have HO : Hid (l[k]? = some o) := ho
      obtain ⟨c0, c1, c2⟩ := hc.below hb hlt k o ho
      clear ho
      have hon := sumine_any o rb tb r t wr e0 e1
      clear e0 e1
      cases hok : mine r t o with
      | false =>
        have HN : Hid (mine r t o = false) := hok
        rw [hok] at hon
        clear hok
        go_wp2_with (go_at_call 24; refine hon.mono ?_; rintro e w1 ⟨rfl, b1⟩; clear hon)
        go_roundw
        case rel =>
          refine ⟨k + 1, by omega, by go_num, fun j x hj hx => ?_, hb.trans (b1.mono hb.size)⟩
          by_cases hjk : j < k
          · exact Hall.out j x hjk hx
          · obtain rfl : j = k := by omega
            rw [HO.out] at hx
            obtain rfl := Option.some.inj hx
            exact HN.out
        case measure => simp [intOf]; omega
      | true =>
        have HF : Hid (l.any (mine r t) = true) := fc_hit HO.out hok
        rw [hok] at hon
        clear hok
        go_wp2_with (go_at_call 24; refine hon.mono ?_; rintro e w1 ⟨rfl, b1⟩; clear hon)
        go_ret
        exact ⟨⟨_, rfl, by rw [HF.out]; simp⟩, hb.trans (b1.mono hb.size)⟩
    · have HF : Hid (l.any (mine r t) = false) := any_miss (fun i x hi hx => Hall.out i x (by omega) hx)
      clear e0 e1
      go_wp2
      go_ret
      exact ⟨⟨_, rfl, by rw [HF.out]; simp⟩, hb⟩
set_option maxRecDepth 100000 in
set_option maxHeartbeats 2000000 in
theorem idxMine_nil (fn : Value) (a : Option Addr) (cap : Nat) (w : World) :
    Calls Tryd.prog 40 #[.slice a 0 cap, fn] w fun e w' => e = .returned (.int .i64 (-1)) ∧ Below w.heap.size w w' := by
  go_enter Tryd.func40, Tryd.ntmps40
  go_wp2
  refine wp_loop_rounds 1 ?_
  rw [rounds_succ]
  go_wp2
  go_ret
  exact ⟨rfl, Below.refl _ _⟩
set_option maxRecDepth 100000 in
set_option maxHeartbeats 2000000 in
theorem conMine (l : List S3) (v : Value) (r t : Int) (rb tb : Nat) (w : World) (k0 : w.cell? ⟨rb, 0, none⟩ = some (.int .i64 r)) (k1 : w.cell? ⟨tb, 0, none⟩ = some (.int .i64 t)) (hlen : l.length ≤ 12) (hl : Sps w v l) :
    Calls Tryd.prog 23 #[v, .func (.func 24) #[] #[.pointer (some ⟨rb, 0, none⟩), .pointer (some ⟨tb, 0, none⟩)]] w fun e w' =>
      e = .returned (.bool (l.any (mine r t))) ∧ Below w.heap.size w w' := by
  rcases hl with ⟨rfl, ao, cap, rfl⟩ | ⟨b, off, cap, rfl, _, hlt, hc⟩
  · have h := idxMine_nil (.func (.func 24) #[] #[.pointer (some ⟨rb, 0, none⟩), .pointer (some ⟨tb, 0, none⟩)]) ao cap w
    clear k0 k1
    go_enter Tryd.func23, Tryd.ntmps23
    go_wp2_with (go_at_call 40; refine h.mono ?_; rintro e w1 ⟨rfl, bb⟩; clear h)
    go_ret
    exact ⟨rfl, bb⟩
  · have h := idxMine l r t b off cap rb tb w k0 k1 hlen hlt hc
    clear k0 k1 hc
    go_enter Tryd.func23, Tryd.ntmps23
    go_wp2_with (go_at_call 40; refine h.mono ?_; rintro e w1 ⟨⟨q, rfl, hq⟩, bb⟩; clear h; have HR : Hid (decide (0 ≤ q) = l.any (mine r t)) := hq; clear hq)
    go_ret
    exact ⟨retB HR.out, bb⟩
/-- A row that is being laid. -/
def RwN (w : World) (g n : Nat) (P : Nat → Bool) : Prop := ∀ i, i < n → w.cell? ⟨g, i, none⟩ = some (.bool (P i)) ∧ w.frozen? ⟨g, i, none⟩ = false
theorem RwN.below {w w' : World} {g n B : Nat} {P : Nat → Bool} (h : RwN w g n P) (hb : Below B w w') (hB : g < B) : RwN w' g n P := fun i hi =>
  ⟨(hb.cell (p := ⟨g, _, none⟩) hB).trans (h i hi).1, (hb.frozen (p := ⟨g, _, none⟩) hB).trans (h i hi).2⟩
theorem RwN.set {w : World} {g n : Nat} {P : Nat → Bool} (h : RwN w g n P) {k : Nat} (hk : k < n) (b : Bool) : RwN (w.setCell ⟨g, k, none⟩ (.bool b)) g n (fun i => if i = k then b else P i) := fun i hi => by
  obtain ⟨h1, h2⟩ := h i hi
  refine ⟨?_, (World.frozen?_setCell _ _ _ _).trans h2⟩
  by_cases he : i = k
  · subst he
    simp [go_sem, h1]
  · simp only [if_neg he]
    rw [World.cell?_setCell_other _ _ _ _ (by intro e; injection e with _ e2; omega)]
    exact h1
theorem made_row (n : Nat) (hn : n ≤ 40) (W : World) : (Instr.makeSlice 42 (.int .i64 n) (.int .i64 n)).run Tryd.prog W = .ok (.slice (some ⟨W.heap.size, 0, none⟩) n n) (W.alloc (.cells (madeCells #[.bool false] n) 4)) := by
  obtain ⟨i, hi, hz⟩ : ∃ i, Tryd.prog.info? 4 = some i ∧ (i.zero, i.size, i.bytes) = (some (.bool false), 1, 1) := by
    have : (Tryd.prog.info? 4).map (fun i => (i.zero, i.size, i.bytes)) = some (some (.bool false), 1, 1) := by kernel_rfl
    cases hq : Tryd.prog.info? 4 with
    | none => rw [hq] at this; cases this
    | some i => rw [hq] at this; exact ⟨i, rfl, Option.some.inj this⟩
  simp only [Prod.mk.injEq] at hz
  obtain ⟨hz1, hz2, hz3⟩ := hz
  have := run_make (P := Tryd.prog) W 42 4 i _ (by kernel_rfl) hi hz1 .i64 .i64 n n (by omega) (Int.le_refl _) (by rw [hz3]; omega) (by omega)
  rw [hz2] at this
  simpa [Value.cells] using this
end Go.Proofs.YtfconbblnmbnpahDoor
namespace Go.Proofs.YtfconbblnmbnpahDoor
open Go.RowKit

set_option maxRecDepth 100000 in
set_option maxHeartbeats 1000000 in
theorem on_any (o : O3) (wb ib : Nat) (what : Int) (i : Nat) (w : World) (h1 : w.cell? ⟨wb, 0, none⟩ = some (.int .i64 what)) (h2 : w.cell? ⟨ib, 0, none⟩ = some (.int .i64 i)) :
    Calls Tryd.prog 88 #[.agg #[.int .i64 o.1, .int .i64 o.2.1, .int .i64 o.2.2], .pointer (some ⟨wb, 0, none⟩), .pointer (some ⟨ib, 0, none⟩)] w fun e w' => e = .returned (.bool (onW what i o)) ∧ Below w.heap.size w w' := by
  have hlt1 := lt_of_cell h1
  have hlt2 := lt_of_cell h2
  have hn1 : wb ≠ w.heap.size := by omega
  have hn2 : ib ≠ w.heap.size := by omega
  by_cases hq : o.1 = what
  · have hqb : (o.1 == what) = true := by simpa using hq
    by_cases hr : o.2.2 = (i : Int)
    · have hrb : (o.2.2 == (i : Int)) = true := by simpa using hr
      have HR : Hid (onW what i o = true) := by show _ = _; simp [onW, hq, hr]
      clear hq hr
      go_enter Tryd.func88, Tryd.ntmps88
      go_wp2
      go_ret
      exact ⟨ret_bool HR.out.symm, (Below.refl _ _).alloc (Nat.le_refl _) _⟩
    · have hrb : (o.2.2 == (i : Int)) = false := by simpa using hr
      have HR : Hid (onW what i o = false) := by show _ = _; simp [onW, hr]
      clear hq hr
      go_enter Tryd.func88, Tryd.ntmps88
      go_wp2
      go_ret
      exact ⟨ret_bool HR.out.symm, (Below.refl _ _).alloc (Nat.le_refl _) _⟩
  · have hqb : (o.1 == what) = false := by simpa using hq
    have HR : Hid (onW what i o = false) := by show _ = _; simp [onW, hq]
    clear hq
    go_enter Tryd.func88, Tryd.ntmps88
    go_wp2
    go_ret
    exact ⟨ret_bool HR.out.symm, (Below.refl _ _).alloc (Nat.le_refl _) _⟩

/-- The place of the first op on that wire; -1, if none. -/
def widx (what : Int) (i : Nat) (l : List O3) : Int := match l.findIdx? (onW what i) with | some k => k | none => -1
theorem widx_some {what : Int} {i : Nat} {l : List O3} {k : Nat} (h : l.findIdx? (onW what i) = some k) : widx what i l = k := by unfold widx; rw [h]
theorem widx_none {what : Int} {i : Nat} {l : List O3} (h : l.findIdx? (onW what i) = none) : widx what i l = -1 := by unfold widx; rw [h]
theorem widx_any (what : Int) (i : Nat) (l : List O3) : decide (widx what i l ≥ 0) = l.any (onW what i) := by
  cases h : l.findIdx? (onW what i) with
  | none =>
    rw [widx_none h]
    rw [List.findIdx?_eq_none_iff] at h
    symm
    simpa using h
  | some k =>
    rw [widx_some h]
    have : (l.findIdx? (onW what i)).isSome = true := by rw [h]; rfl
    rw [List.findIdx?_isSome] at this
    rw [this]
    simp

set_option maxRecDepth 100000 in
set_option maxHeartbeats 2000000 in
theorem indexOn_some (what : Int) (wi : Nat) (l : List O3) (b off cap wb ib : Nat) (w : World) (hw1 : w.cell? ⟨wb, 0, none⟩ = some (.int .i64 what)) (hw2 : w.cell? ⟨ib, 0, none⟩ = some (.int .i64 wi)) (hlen : l.length ≤ 20) (hlt : b < w.heap.size)
    (hc : ∀ (i : Nat) o, l[i]? = some o → w.cell? ⟨b, off + i * 3, none⟩ = some (.int .i64 o.1) ∧ w.cell? ⟨b, off + i * 3 + 1, none⟩ = some (.int .i64 o.2.1) ∧ w.cell? ⟨b, off + i * 3 + 2, none⟩ = some (.int .i64 o.2.2)) :
    Calls Tryd.prog 77 #[.slice (some ⟨b, off, none⟩) l.length cap, .func (.func 88) #[] #[.pointer (some ⟨wb, 0, none⟩), .pointer (some ⟨ib, 0, none⟩)]] w fun e w' =>
      e = .returned (.int .i64 (widx what wi l)) ∧ Below w.heap.size w w' := by
  have hl1 := lt_of_cell hw1
  have hl2 := lt_of_cell hw2
  go_enter Tryd.func77, Tryd.ntmps77
  go_wp2
  go_loopw [8] (fun i wr => ∃ k : Nat, k ≤ l.length ∧ i = .int .i64 k ∧ (∀ (j : Nat) x, j < k → l[j]? = some x → onW what wi x = false) ∧ Below w.heap.size w wr) (fun i _ => l.length - (intOf i).toNat)
  case atStart => exact ⟨0, Nat.zero_le _, rfl, fun j x hj => by omega, Below.refl _ _⟩
  case round =>
    obtain ⟨k, hk, rfl, hall, hb⟩ := hrel
    have e1 : wr.cell? ⟨wb, 0, none⟩ = some (.int .i64 what) := (hb.cell (p := ⟨wb, 0, none⟩) hl1).trans hw1
    have e2 : wr.cell? ⟨ib, 0, none⟩ = some (.int .i64 wi) := (hb.cell (p := ⟨ib, 0, none⟩) hl2).trans hw2
    have Hall : Hid (∀ (j : Nat) x, j < k → l[j]? = some x → onW what wi x = false) := hall
    clear hall
    by_cases hkl : k < l.length
    · obtain ⟨o, ho⟩ : ∃ o, l[k]? = some o := ⟨l[k], List.getElem?_eq_getElem hkl⟩
      have HO : Hid (l[k]? = some o) := ho
      obtain ⟨c0, c1, c2⟩ := hc k o ho
      clear ho
      have d0 : wr.cell? ⟨b, off + k * 3, none⟩ = some (.int .i64 o.1) := (hb.cell (p := ⟨b, _, none⟩) hlt).trans c0
      have d1 : wr.cell? ⟨b, off + k * 3 + 1, none⟩ = some (.int .i64 o.2.1) := (hb.cell (p := ⟨b, _, none⟩) hlt).trans c1
      have d2 : wr.cell? ⟨b, off + k * 3 + 2, none⟩ = some (.int .i64 o.2.2) := (hb.cell (p := ⟨b, _, none⟩) hlt).trans c2
      clear c0 c1 c2
      have hon := on_any o wb ib what wi wr e1 e2
      clear e1 e2
      cases hok : onW what wi o with
      | false =>
        have HN : Hid (onW what wi o = false) := hok
        rw [hok] at hon
        clear hok
        go_wp2_with (go_at_call 88; refine hon.mono ?_; rintro e w1 ⟨rfl, b1⟩; clear hon)
        go_roundw
        case rel =>
          refine ⟨k + 1, by omega, by go_num, fun j x hj hx => ?_, hb.trans (b1.mono hb.size)⟩
          by_cases hjk : j < k
          · exact Hall.out j x hjk hx
          · obtain rfl : j = k := by omega
            rw [HO.out] at hx
            obtain rfl := Option.some.inj hx
            exact HN.out
        case measure => simp [intOf]; omega
      | true =>
        have HF : Hid (l.findIdx? (onW what wi) = some k) := findIdx_hit Hall.out HO.out hok
        rw [hok] at hon
        clear hok
        go_wp2_with (go_at_call 88; refine hon.mono ?_; rintro e w1 ⟨rfl, b1⟩; clear hon)
        go_ret
        exact ⟨ret_int (widx_some HF.out).symm, hb.trans (b1.mono hb.size)⟩
    · have HF : Hid (l.findIdx? (onW what wi) = none) := findIdx_miss (fun i x hi hx => Hall.out i x (by omega) hx)
      clear e1 e2
      go_wp2
      go_ret
      exact ⟨ret_int (widx_none HF.out).symm, hb⟩

set_option maxRecDepth 100000 in
set_option maxHeartbeats 2000000 in
theorem contains_some (what : Int) (wi : Nat) (l : List O3) (b off cap wb ib : Nat) (w : World) (hw1 : w.cell? ⟨wb, 0, none⟩ = some (.int .i64 what)) (hw2 : w.cell? ⟨ib, 0, none⟩ = some (.int .i64 wi)) (hlen : l.length ≤ 20) (hlt : b < w.heap.size)
    (hc : ∀ (i : Nat) o, l[i]? = some o → w.cell? ⟨b, off + i * 3, none⟩ = some (.int .i64 o.1) ∧ w.cell? ⟨b, off + i * 3 + 1, none⟩ = some (.int .i64 o.2.1) ∧ w.cell? ⟨b, off + i * 3 + 2, none⟩ = some (.int .i64 o.2.2)) :
    Calls Tryd.prog 87 #[.slice (some ⟨b, off, none⟩) l.length cap, .func (.func 88) #[] #[.pointer (some ⟨wb, 0, none⟩), .pointer (some ⟨ib, 0, none⟩)]] w fun e w' =>
      e = .returned (.bool (l.any (onW what wi))) ∧ Below w.heap.size w w' := by
  have hI := indexOn_some what wi l b off cap wb ib w hw1 hw2 hlen hlt hc
  have HA : Hid (decide (widx what wi l ≥ 0) = l.any (onW what wi)) := widx_any what wi l
  obtain ⟨x, hx⟩ : ∃ x, x = widx what wi l := ⟨_, rfl⟩
  rw [← hx] at hI HA
  clear hx hw1 hw2 hc
  go_enter Tryd.func87, Tryd.ntmps87
  go_wp2_with (go_at_call 77; refine hI.mono ?_; rintro e w1 ⟨rfl, b1⟩; clear hI)
  go_ret
  exact ⟨ret_bool HA.out, b1⟩

set_option maxRecDepth 1000000 in
set_option maxHeartbeats 4000000 in
theorem wiresOf_some (what : Int) (l : List O3) (b off cap : Nat) (w : World) (hlen : l.length ≤ 20) (hlt : b < w.heap.size)
    (hc : ∀ (i : Nat) o, l[i]? = some o → w.cell? ⟨b, off + i * 3, none⟩ = some (.int .i64 o.1) ∧ w.cell? ⟨b, off + i * 3 + 1, none⟩ = some (.int .i64 o.2.1) ∧ w.cell? ⟨b, off + i * 3 + 2, none⟩ = some (.int .i64 o.2.2)) :
    Calls Tryd.prog 85 #[.slice (some ⟨b, off, none⟩) l.length cap, .int .i64 what] w fun e w' => ∃ v', e = .returned v' ∧ Ints w' v' (wiresB what l) ∧ Below w.heap.size w w' := by
  obtain ⟨ii, hi, hz0, hz1, hz2⟩ := info_parts infoIntC
  go_enter Tryd.func85, Tryd.ntmps85
  go_wp2
  go_loopw [5, 7] (fun o i wr => ∃ k : Nat, k ≤ 12 ∧ i = .int .i64 k ∧ wr.ownsRow (w.heap.size + 1) 3 1 o (pickN (fun i => l.any (onW what i)) 0 k).length ((pickN (fun i => l.any (onW what i)) 0 k).map (Value.int .i64)) ∧
      Below (w.heap.size + 1) (w.alloc (.cells #[.int .i64 what] 3)) wr) (fun _ i _ => 12 - (intOf i).toNat)
  case atStart => exact ⟨0, Nat.zero_le _, rfl, World.ownsRow_nil _ _ _ _, Below.refl _ _⟩
  case round =>
    obtain ⟨k, hk, rfl, hown, hb⟩ := hrel
    have hpl := pick_len (fun i => l.any (onW what i)) k
    have HS : Hid (pickN (fun i => l.any (onW what i)) 0 (k + 1) = if l.any (onW what k) then pickN (fun i => l.any (onW what i)) 0 k ++ [(k : Int)] else pickN (fun i => l.any (onW what i)) 0 k) := pick_snoc _ k
    obtain ⟨Z, hZ⟩ : ∃ Z, Z = pickN (fun i => l.any (onW what i)) 0 k := ⟨_, rfl⟩
    rw [← hZ] at hown hpl HS
    have HZ : Hid (Z = pickN (fun i => l.any (onW what i)) 0 k) := hZ
    clear hZ
    have hsz : w.heap.size + 1 ≤ wr.heap.size := by have := hb.size; simpa using this
    have bw : Below w.heap.size w wr := ((Below.refl _ w).alloc (Nat.le_refl _) _).trans (hb.mono (by simp))
    by_cases hk12 : k < 12
    · have hk12' : (k : Int) < 12 := by omega
      have bA : Below wr.heap.size wr (wr.alloc (.cells #[.int .i64 k] 3)) := (Below.refl _ _).alloc (Nat.le_refl _) _
      have bwA : Below w.heap.size w (wr.alloc (.cells #[.int .i64 k] 3)) := bw.trans (bA.mono (by omega))
      have x1 : (wr.alloc (.cells #[.int .i64 k] 3)).cell? ⟨w.heap.size, 0, none⟩ = some (.int .i64 what) := (bA.cell (p := ⟨w.heap.size, 0, none⟩) (by simp; omega)).trans ((hb.cell (p := ⟨w.heap.size, 0, none⟩) (by simp)).trans (by simp))
      have x2 : (wr.alloc (.cells #[.int .i64 k] 3)).cell? ⟨wr.heap.size, 0, none⟩ = some (.int .i64 k) := by simp
      have hcon := contains_some what k l b off cap w.heap.size wr.heap.size _ x1 x2 hlen (Nat.lt_of_lt_of_le hlt bwA.size) (fun i o ho => by
        obtain ⟨c0, c1, c2⟩ := hc i o ho
        exact ⟨(bwA.cell (p := ⟨b, _, none⟩) hlt).trans c0, (bwA.cell (p := ⟨b, _, none⟩) hlt).trans c1, (bwA.cell (p := ⟨b, _, none⟩) hlt).trans c2⟩)
      clear x1 hc
      cases hany : l.any (onW what k) with
      | false =>
        rw [hany] at hcon HS
        have HP : Hid (pickN (fun i => l.any (onW what i)) 0 (k + 1) = Z) := by show _ = _; simpa using HS.out
        clear HS hany x2
        go_wp2_with (go_at_call 87; refine hcon.mono ?_; rintro e w2 ⟨rfl, b2⟩; clear hcon)
        go_roundw
        case rel => exact ⟨k + 1, by omega, by go_num, by rw [HP.out]; exact own_all (hown.alloc _) b2, (hb.trans (bA.mono hsz)).trans (b2.mono (by simp; omega))⟩
        case measure => simp [intOf]; omega
      | true =>
        rw [hany] at hcon HS
        have HP : Hid (pickN (fun i => l.any (onW what i)) 0 (k + 1) = Z ++ [(k : Int)]) := by show _ = _; simpa using HS.out
        clear HS hany
        go_wp2_with (first | (go_at_call 87; refine hcon.mono ?_; rintro e w2 ⟨rfl, b2⟩; have hown2 := own_all (hown.alloc _) b2; have hb2 := (hb.trans (bA.mono hsz)).trans (b2.mono (by simp; omega)); have y2 := (b2.cell (p := ⟨wr.heap.size, 0, none⟩) (by simp)).trans x2; clear hcon hown x2) | (at_builtin; refine wpList_append_own _ rfl _ _ 106 rfl (w.heap.size + 1) 3 ii (.int .i64 0) 1 8 Tryd.underlying106 hi hz0 hz1 hz2 rfl (by decide) _ _ _ rfl (hown2.alloc _) ⟨w2.heap.size, 0, none⟩ 1 1 [.int .i64 k] rfl rfl ?c1A ?c2A ?c3A ?c4A ?c5A ?_))
        case c1A =>
          intro j u hj
          match j, hj with
          | 0, hj => simp at hj; subst hj; simp [Addr.add]
        case c2A => intro u hu; simp at hu; subst hu; rfl
        case c3A => unfold maxLen; omega
        case c4A => omega
        case c5A => have := b2.size; simp at this; simp; omega
        intro v' w3 hown' hgrow _
        have hsz2 : w.heap.size + 1 ≤ w2.heap.size := by have := b2.size; simp at this; omega
        have hb3 : Below (w.heap.size + 1) (w.alloc (.cells #[.int .i64 what] 3)) w3 := (hb2.alloc hsz2 _).grown hgrow (by simp; omega) (fun j hj => (hown2.lt j hj).1)
        have R : w3.ownsRow (w.heap.size + 1) 3 1 v' (Z ++ [(k : Int)]).length ((Z ++ [(k : Int)]).map (Value.int .i64)) := by simpa using hown'
        clear hown' hgrow hown2 y2
        go_wp2
        go_roundw
        case rel => exact ⟨k + 1, by omega, by go_num, by rw [HP.out]; exact R, hb3⟩
        case measure => simp [intOf]; omega
    · have hke : k = 12 := by omega
      subst hke
      have HP : Hid (Z = wiresB what l) := HZ.out
      have hv := ints_of_own hown
      obtain ⟨g, n', cap', rfl⟩ := slice_form hown
      clear hown
      go_wp2
      go_ret
      exact ⟨_, rfl, by rw [← HP.out]; exact hv, bw⟩

end Go.Proofs.YtfconbblnmbnpahDoor
namespace Go.Proofs.YtfconbblnmbnpahDoor
open Go.RowKit

set_option maxRecDepth 1000000 in
set_option maxHeartbeats 400000 in
theorem wires_some (l : List O3) (b off cap : Nat) (w : World) (hf : Forms w) (hk0 : (chk l).2 = 0) (hlt : b < w.heap.size)
    (hc : ∀ (i : Nat) o, l[i]? = some o → w.cell? ⟨b, off + i * 3, none⟩ = some (.int .i64 o.1) ∧ w.cell? ⟨b, off + i * 3 + 1, none⟩ = some (.int .i64 o.2.1) ∧ w.cell? ⟨b, off + i * 3 + 2, none⟩ = some (.int .i64 o.2.2)) :
    Calls Tryd.prog 78 #[.slice (some ⟨b, off, none⟩) l.length cap] w fun e w' => ∃ x y, e = .returned (.tuple #[x, y, .nilIface]) ∧ Ints w' x (wiresB 8 l) ∧ Ints w' y (wiresB 9 l) ∧ Below w.heap.size w w' := by
  obtain ⟨hz0, hz1, hz2⟩ := chk_zero hk0
  have hck := check_any (.slice (some ⟨b, off, none⟩) l.length cap) l w hf (Or.inr ⟨b, off, cap, rfl, hlt, hc⟩)
  rw [chk_fst hk0, show errV (0, (0 : Int)).2 = .nilIface from rfl] at hck
  have hwo := fun what W (bW : Below w.heap.size w W) => wiresOf_some what l b off cap W (by omega) (Nat.lt_of_lt_of_le hlt bW.size) (fun i o ho => by
    obtain ⟨c0, c1, c2⟩ := hc i o ho
    exact ⟨(bW.cell (p := ⟨b, _, none⟩) hlt).trans c0, (bW.cell (p := ⟨b, _, none⟩) hlt).trans c1, (bW.cell (p := ⟨b, _, none⟩) hlt).trans c2⟩)
  have hw8 := hwo 8
  have hw9 := hwo 9
  clear hc hk0 hz0 hz2 hwo
  go_enter Tryd.func78, Tryd.ntmps78
  go_wp2_with (first | (go_at_call 61; refine hck.mono ?_; rintro e w1 ⟨rfl, b1⟩; clear hck) | (go_at_call 85; refine (hw8 _ b1).mono ?_; rintro e w2 ⟨x, rfl, ix, b2⟩; have b12 := b1.trans (b2.mono b1.size); clear hw8) | (go_at_call 85; refine (hw9 _ b12).mono ?_; rintro e w3 ⟨y, rfl, iy, b3⟩; clear hw9))
  go_ret3
  exact ⟨x, y, rfl, ints_all ix b3, iy, b12.trans (b3.mono b12.size)⟩
/-- The wires, where nothing is wrong. -/
theorem wires_good (v : Value) (l : List O3) (w : World) (hf : Forms w) (h : Ops w v l) (hk0 : (chk l).2 = 0) :
    Calls Tryd.prog 78 #[v] w fun e w' => ∃ x y, e = .returned (.tuple #[x, y, .nilIface]) ∧ Ints w' x (wiresB 8 l) ∧ Ints w' y (wiresB 9 l) ∧ Below w.heap.size w w' := by
  rcases h with ⟨rfl, ao, cap, rfl⟩ | ⟨b, off, cap, rfl, hlt, hc⟩
  · exact absurd hk0 (by decide)
  · exact wires_some l b off cap w hf hk0 hlt hc
set_option maxRecDepth 1000000 in
set_option maxHeartbeats 400000 in
theorem wires_fault (v : Value) (l : List O3) (w : World) (hf : Forms w) (h : Ops w v l) (hk0 : (chk l).2 ≠ 0) :
    Calls Tryd.prog 78 #[v] w fun e w' => e = .returned (.tuple #[.slice none 0 0, .slice none 0 0, errV (chk l).2]) ∧ Below w.heap.size w w' := by
  have hck := check_any v l w hf h
  have he : errV (chk l).2 = .iface 46 (.int .i64 (chk l).2) := by unfold errV; rw [if_neg hk0]
  rw [he] at hck ⊢
  obtain ⟨ao, cap, rfl⟩ := h.form
  clear he hk0 h
  go_enter Tryd.func78, Tryd.ntmps78
  go_wp2_with (go_at_call 61; refine hck.mono ?_; rintro e w1 ⟨rfl, b1⟩; clear hck)
  go_ret3
  exact ⟨rfl, b1⟩
end Go.Proofs.YtfconbblnmbnpahDoor
namespace Go.Proofs.YtfconbblnmbnpahDoor
open Go.RowKit

set_option maxRecDepth 100000 in
set_option maxHeartbeats 2000000 in
theorem surow_bad (n : Int) (l : List S3) (v : Value) (r : Int) (w : World) (hl : Sps w v l) (h : supE n l r ≠ 0) :
    Calls Tryd.prog 11 #[.int .i64 n, v, .int .i64 r] w fun e w' => e = .returned (.tuple #[.slice none 0 0, .iface 46 (.int .i64 (supE n l r))]) ∧ Below w.heap.size w w' := by
  have b0 : Below w.heap.size w (w.alloc (.cells #[.int .i64 r] 3)) := (Below.refl _ _).alloc (Nat.le_refl _) _
  have hch := fcheck_any n l v _ (hl.all b0)
  obtain ⟨ao, cap, rfl⟩ := hl.form
  clear hl
  by_cases h0 : (fchk n l).2 = 0
  · rw [h0, show fErr 0 = .nilIface from rfl] at hch
    have he : supE n l r = 1 := by
      unfold supE at h ⊢
      rw [if_pos h0] at h ⊢
      split at h
      · rename_i hr; rw [if_pos hr]
      · exact absurd rfl h
    have hr : r < 0 ∨ 4 < r := by
      unfold supE at he
      rw [if_pos h0] at he
      split at he
      · assumption
      · cases he
    rw [he]
    clear he h h0
    by_cases h1 : r < 0
    · clear hr
      go_enter Tryd.func11, Tryd.ntmps11
      go_wp2_with (go_at_call 22; refine hch.mono ?_; rintro e w1 ⟨rfl, b1⟩; clear hch; have c0 : w1.cell? ⟨w.heap.size, 0, none⟩ = some (.int .i64 r) := (b1.cell (p := ⟨w.heap.size, 0, none⟩) (by simp)).trans (by simp))
      go_ret2
      exact ⟨rfl, b0.trans (b1.mono (by simp))⟩
    · have h1' : decide (r < 0) = false := by simpa using h1
      have h2' : decide (5 ≤ r) = true := by simp; omega
      clear hr
      go_enter Tryd.func11, Tryd.ntmps11
      go_wp2_with (go_at_call 22; refine hch.mono ?_; rintro e w1 ⟨rfl, b1⟩; clear hch; have c0 : w1.cell? ⟨w.heap.size, 0, none⟩ = some (.int .i64 r) := (b1.cell (p := ⟨w.heap.size, 0, none⟩) (by simp)).trans (by simp))
      go_ret2
      exact ⟨rfl, b0.trans (b1.mono (by simp))⟩
  · rw [fErr_not h0] at hch
    have he : supE n l r = (fchk n l).2 := by unfold supE; rw [if_neg h0]
    rw [he]
    generalize (fchk n l).2 = q at hch
    generalize (fchk n l).1 = q1 at hch
    clear he h h0
    go_enter Tryd.func11, Tryd.ntmps11
    go_wp2_with (go_at_call 22; refine hch.mono ?_; rintro e w1 ⟨rfl, b1⟩; clear hch)
    go_ret2
    exact ⟨rfl, b0.trans (b1.mono (by simp))⟩
theorem RwN.congr {w : World} {g n : Nat} {P Q : Nat → Bool} (h : RwN w g n P) (hq : ∀ i, i < n → P i = Q i) : RwN w g n Q := fun i hi => by rw [← hq i hi]; exact h i hi
theorem rwn_new (W : World) (n : Nat) (P : Nat → Bool) (hP : ∀ i, i < n → P i = false) : RwN (W.alloc (.cells (madeCells #[.bool false] n) 4)) W.heap.size n P := fun i hi => by
  have hN := World.alloc_heap_new W (.cells (madeCells #[.bool false] n) 4)
  rw [hP i hi]
  generalize W.alloc (.cells (madeCells #[.bool false] n) 4) = W2 at hN ⊢
  constructor
  · simp [World.cell?, hN, madeCells, hi, Nat.mod_one]
  · simp [World.frozen?, hN]
set_option maxRecDepth 100000 in
set_option maxHeartbeats 4000000 in
theorem surow_ok (n : Nat) (l : List S3) (v : Value) (r : Int) (w : World) (hl : Sps w v l) (h : supE n l r = 0) :
    Calls Tryd.prog 11 #[.int .i64 n, v, .int .i64 r] w fun e w' => ∃ g, e = .returned (.tuple #[.slice (some ⟨g, 0, none⟩) n n, .nilIface]) ∧ Rw w' g n (hasT n l r) ∧ Below w.heap.size w w' := by
  obtain ⟨h0, hr0, hr4⟩ := supE_zero h
  obtain ⟨hn1, hn2, hlen, _, hz⟩ := fchk_zero h0
  have b0 : Below w.heap.size w (w.alloc (.cells #[.int .i64 r] 3)) := (Below.refl _ _).alloc (Nat.le_refl _) _
  have hch := fcheck_any n l v _ (hl.all b0)
  rw [hz, show fErr (0, 0).2 = .nilIface from rfl] at hch
  have HRow : Hid (∀ t : Nat, t < n → l.any (mine r t) = hasT n l r t) := fun t ht => hasT_row h0 hr0 ht
  have HCon : Hid (∀ (tb : Nat) (t : Int) (W : World), Below w.heap.size w W → W.cell? ⟨w.heap.size, 0, none⟩ = some (.int .i64 r) → W.cell? ⟨tb, 0, none⟩ = some (.int .i64 t) → Calls Tryd.prog 23 #[v, .func (.func 24) #[] #[.pointer (some ⟨w.heap.size, 0, none⟩), .pointer (some ⟨tb, 0, none⟩)]] W fun e w' => e = .returned (.bool (l.any (mine r t))) ∧ Below W.heap.size W w') := fun tb t W hb k0 k1 => conMine l v r t w.heap.size tb W k0 k1 hlen (hl.all hb)
  have h1' : decide (r < 0) = false := by simp; omega
  have h2' : decide (5 ≤ r) = false := by simp; omega
  have hmk := made_row n (by omega)
  obtain ⟨ao, cap, rfl⟩ := hl.form
  have hn40 : n ≤ 40 := by omega
  clear hl h h0 hz hlen
  go_enter Tryd.func11, Tryd.ntmps11
  go_upto_region 6 with (go_at_call 22; refine hch.mono ?_; rintro e w1 ⟨rfl, b1⟩; clear hch; have c0 : w1.cell? ⟨w.heap.size, 0, none⟩ = some (.int .i64 r) := (b1.cell (p := ⟨w.heap.size, 0, none⟩) (by simp)).trans (by simp))
  have HB1 : Hid (Below w.heap.size w w1) := b0.trans (b1.mono (by simp))
  have hs1 : w.heap.size + 1 ≤ w1.heap.size := by have := b1.size; simp at this; omega
  have HN : Hid (RwN (w1.alloc (.cells (madeCells #[.bool false] n) 4)) w1.heap.size n (fun i => if i < 0 then hasT n l r i else false)) := rwn_new w1 n _ (fun i _ => by simp)
  have HB2 : Hid (Below w.heap.size w (w1.alloc (.cells (madeCells #[.bool false] n) 4))) := HB1.out.alloc HB1.out.size _
  have HC2 : Hid ((w1.alloc (.cells (madeCells #[.bool false] n) 4)).cell? ⟨w.heap.size, 0, none⟩ = some (.int .i64 r)) := (((Below.refl _ w1).alloc (Nat.le_refl _) _).cell (p := ⟨w.heap.size, 0, none⟩) (show w.heap.size < w1.heap.size by omega)).trans c0
  have hs2 : w1.heap.size + 1 ≤ (w1.alloc (.cells (madeCells #[.bool false] n) 4)).heap.size := by simp
  clear b0 b1 HB1 c0
  go_wp2
  generalize w1.alloc (.cells (madeCells #[.bool false] n) 4) = w2 at HN HB2 HC2 hs2 ⊢
  generalize w1.heap.size = g at HN hs1 hs2 ⊢
  clear hmk
  go_loopw [31] (fun s31 wr => ∃ k : Nat, k ≤ n ∧ s31 = .int .i64 k ∧ Hid (RwN wr g n (fun i => if i < k then hasT n l r i else false)) ∧ Hid (wr.cell? ⟨w.heap.size, 0, none⟩ = some (.int .i64 r)) ∧ g + 1 ≤ wr.heap.size ∧ Hid (Below w.heap.size w wr)) (fun s31 _ => n - (intOf s31).toNat)
  case atStart => exact ⟨0, Nat.zero_le _, rfl, HN, HC2, hs2, HB2⟩
  case round =>
    clear HN HC2 hs2 HB2
    obtain ⟨k, hk, rfl, HR, HC, hs, HB⟩ := hrel
    by_cases hkn : k < n
    · have hki : (k : Int) < (n : Int) := by omega
      go_upto_region 10 with fail
      have bt : Below wr.heap.size wr (wr.alloc (.cells #[.int .i64 (k : Int)] 3)) := (Below.refl _ _).alloc (Nat.le_refl _) _
      have hst : wr.heap.size < (wr.alloc (.cells #[.int .i64 (k : Int)] 3)).heap.size := by simp
      have ct : (wr.alloc (.cells #[.int .i64 (k : Int)] 3)).cell? ⟨wr.heap.size, 0, none⟩ = some (.int .i64 (k : Int)) := by simp
      generalize wr.alloc (.cells #[.int .i64 (k : Int)] 3) = wt at bt hst ct ⊢
      have hq := HCon.out wr.heap.size (k : Int) wt.drew ((HB.out.trans (bt.mono HB.out.size)).drew) ((bt.cell (p := ⟨w.heap.size, 0, none⟩) (show w.heap.size < wr.heap.size by omega)).trans HC.out) ct
      rw [HRow.out k hkn] at hq
      generalize hb : hasT n l r k = b at hq
      have HBT : Hid (Below w.heap.size w wt) := HB.out.trans (bt.mono HB.out.size)
      have HRT : Hid (RwN wt g n (fun i => if i < k then hasT n l r i else false)) := HR.out.below bt (by omega)
      have HCT : Hid (wt.cell? ⟨w.heap.size, 0, none⟩ = some (.int .i64 r)) := (bt.cell (p := ⟨w.heap.size, 0, none⟩) (show w.heap.size < wr.heap.size by omega)).trans HC.out
      have HK : Hid (∀ W, Below wt.drew.heap.size wt.drew W → W.cell? ⟨wr.heap.size, 0, none⟩ = some (.int .i64 (k : Int)) ∧ (∃ c, W.cell? ⟨g, k, none⟩ = some (.bool c)) ∧ W.frozen? ⟨g, k, none⟩ = false) := fun W hW => ⟨(hW.cell (p := ⟨wr.heap.size, 0, none⟩) hst).trans ct, ⟨_, (hW.cell (p := ⟨g, k, none⟩) (show g < wt.heap.size by omega)).trans (HRT.out k hkn).1⟩, (hW.frozen (p := ⟨g, k, none⟩) (show g < wt.heap.size by omega)).trans (HRT.out k hkn).2⟩
      have HHB : Hid (hasT n l r k = b) := hb
      obtain ⟨⟨c0, hc0⟩, hf0⟩ := (HK.out wt.drew (Below.refl _ _)).2
      clear hb HR HC HB
      go_region_with (go_at_call 23; refine hq.mono ?_; rintro e w3 ⟨rfl, b3⟩; obtain ⟨k1, ⟨k2c, k2⟩, k3⟩ := HK.out w3 b3)
      all_goals (
        go_wp2
        go_roundw
        case rel =>
          have b3' : Below wt.heap.size wt w3 := ((Below.refl _ wt).drew).trans b3
          have hb3 := b3'.size
          have HBB := HBT.out.trans (b3'.mono HBT.out.size)
          refine ⟨k + 1, by omega, by go_num, ?_, ?_, by simp; omega, HBB.setCell (p := ⟨g, k, none⟩) (show w.heap.size ≤ g by omega) _⟩
          · refine ((HRT.out.below b3' (by omega)).set hkn b).congr fun i hi => ?_
            by_cases e : i = k
            · subst e
              simp [HHB.out]
            · by_cases e2 : i < k
              · simp [e, e2, show i < k + 1 by omega]
              · simp [e, e2, show ¬ i < k + 1 by omega]
          · refine (World.cell?_of_block (w := w3) (a := ⟨w.heap.size, 0, none⟩) (Below.heap_setCell _ _ _ _ (show w.heap.size ≠ g by omega))).trans ?_
            exact (b3'.cell (p := ⟨w.heap.size, 0, none⟩) (show w.heap.size < wt.heap.size by omega)).trans HCT.out
        case measure => simp [intOf]; omega)
    · obtain rfl : k = n := by omega
      have HF : Hid (Rw wr g k (hasT k l r)) := ⟨by omega, fun i hi => by have := (HR.out i hi).1; simp only [if_pos hi] at this; exact this⟩
      clear HR HCon HRow
      go_wp2
      go_ret2
      exact ⟨g, rfl, HF.out, HB.out⟩
end Go.Proofs.YtfconbblnmbnpahDoor
