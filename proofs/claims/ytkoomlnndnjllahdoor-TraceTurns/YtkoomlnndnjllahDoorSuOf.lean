/-
  Package supply: rowOf.
-/
import Derived.Test.YtkoomlnndnjllahDoorJa1
import Derived.Test.YtkoomlnndnjllahDoorFCheck
import Derived.Deep.CutRange
namespace Go.Proofs.YtkoomlnndnjllahDoor
open Go.RowKit

set_option maxRecDepth 100000 in
set_option maxHeartbeats 1000000 in
theorem sumine_any (s : S3) (rb tb : Nat) (r t : Int) (w : World) (hr : w.cell? ⟨rb, 0, none⟩ = some (.int .i64 r)) (ht : w.cell? ⟨tb, 0, none⟩ = some (.int .i64 t)) :
    Calls Tryd.prog 24 #[.agg #[.int .i64 s.1, .int .i64 s.2.1, .int .i64 s.2.2], .pointer (some ⟨rb, 0, none⟩), .pointer (some ⟨tb, 0, none⟩)] w fun e w' => e = .returned (.bool (mine r t s)) ∧ Below w.heap.size w w' := by
  have hlt := ltc ht
  have hlr := ltc hr
  have hn : tb ≠ w.heap.size := by omega
  have hn2 : rb ≠ w.heap.size := by omega
  obtain ⟨a, b, q⟩ := s
  simp only
  cases h0 : (q == r) with
  | false =>
    have HF : Hid (mine r t (a, b, q) = false) := by
      show _ = _
      have : ¬ q = r := fun e => by rw [e] at h0; simp at h0
      simp [mine, this]
    go_enter Tryd.func24, Tryd.ntmps24
    go_wp2
    go_ret
    exact ⟨retB HF.out.symm, (Below.refl _ _).alloc (Nat.le_refl _) _⟩
  | true =>
    have hqr := eq_of_beq h0
    by_cases h1 : a ≤ t
    · by_cases h2 : t < b
      · have HF : Hid (mine r t (a, b, q) = true) := by show _ = _; simp [mine, h1, h2, hqr]
        clear hqr
        go_enter Tryd.func24, Tryd.ntmps24
        go_wp2
        go_ret
        exact ⟨retB HF.out.symm, (Below.refl _ _).alloc (Nat.le_refl _) _⟩
      · have h2' : decide (t < b) = false := by simpa using h2
        have HF : Hid (mine r t (a, b, q) = false) := by show _ = _; simp [mine, h2]
        clear hqr
        go_enter Tryd.func24, Tryd.ntmps24
        go_wp2
        go_ret
        exact ⟨retB HF.out.symm, (Below.refl _ _).alloc (Nat.le_refl _) _⟩
    · have h1' : decide (a ≤ t) = false := by simpa using h1
      have HF : Hid (mine r t (a, b, q) = false) := by show _ = _; simp [mine, h1]
      clear hqr
      go_enter Tryd.func24, Tryd.ntmps24
      go_wp2
      go_ret
      exact ⟨retB HF.out.symm, (Below.refl _ _).alloc (Nat.le_refl _) _⟩
set_option maxRecDepth 100000 in
set_option maxHeartbeats 2000000 in
theorem idxMine (l : List S3) (r t : Int) (b off cap rb tb : Nat) (w : World) (k0 : w.cell? ⟨rb, 0, none⟩ = some (.int .i64 r)) (k1 : w.cell? ⟨tb, 0, none⟩ = some (.int .i64 t)) (hlen : l.length ≤ 12) (hlt : b < w.heap.size) (hc : SpC w b off l) :
    Calls Tryd.prog 40 #[.slice (some ⟨b, off, none⟩) l.length cap, .func (.func 24) #[] #[.pointer (some ⟨rb, 0, none⟩), .pointer (some ⟨tb, 0, none⟩)]] w fun e w' =>
      (∃ q : Int, e = .returned (.int .i64 q) ∧ decide (0 ≤ q) = l.any (mine r t)) ∧ Below w.heap.size w w' := by
  have hlt0 := ltc k0
  have hlt1 := ltc k1
  go_enter Tryd.func40, Tryd.ntmps40
  go_wp2
  go_loopw [8] (fun i wr => ∃ k : Nat, k ≤ l.length ∧ i = .int .i64 k ∧ (∀ (j : Nat) x, j < k → l[j]? = some x → mine r t x = false) ∧ Below w.heap.size w wr) (fun i _ => l.length - (intOf i).toNat)
  case atStart => exact ⟨0, Nat.zero_le _, rfl, fun j x hj => by omega, Below.refl _ _⟩
  case round =>
    obtain ⟨k, hk, rfl, hall, hb⟩ := hrel
    have e0 : wr.cell? ⟨rb, 0, none⟩ = some (.int .i64 r) := (hb.cell (p := ⟨rb, 0, none⟩) hlt0).trans k0
    have e1 : wr.cell? ⟨tb, 0, none⟩ = some (.int .i64 t) := (hb.cell (p := ⟨tb, 0, none⟩) hlt1).trans k1
    have Hall : Hid (∀ (j : Nat) x, j < k → l[j]? = some x → mine r t x = false) := hall
    clear hall
    by_cases hkl : k < l.length
    · obtain ⟨o, ho⟩ : ∃ o, l[k]? = some o := ⟨l[k], List.getElem?_eq_getElem hkl⟩
      have HO : Hid (l[k]? = some o) := ho
      obtain ⟨c0, c1, c2⟩ := hc.below hb hlt k o ho
      clear ho
      have hon := sumine_any o rb tb r t wr e0 e1
      clear e0 e1
      cases hok : mine r t o with
      | false =>
        have HN : Hid (mine r t o = false) := hok
        rw [hok] at hon
        clear hok
        go_wp2_with (go_at_call 24; refine hon.mono ?_; rintro e w1 ⟨rfl, b1⟩; clear hon)
        go_roundw
        case rel =>
          refine ⟨k + 1, by omega, by go_num, fun j x hj hx => ?_, hb.trans (b1.mono hb.size)⟩
          by_cases hjk : j < k
          · exact Hall.out j x hjk hx
          · obtain rfl : j = k := by omega
            rw [HO.out] at hx
            obtain rfl := Option.some.inj hx
            exact HN.out
        case measure => simp [intOf]; omega
      | true =>
        have HF : Hid (l.any (mine r t) = true) := fc_hit HO.out hok
        rw [hok] at hon
        clear hok
        go_wp2_with (go_at_call 24; refine hon.mono ?_; rintro e w1 ⟨rfl, b1⟩; clear hon)
        go_ret
        exact ⟨⟨_, rfl, by rw [HF.out]; simp⟩, hb.trans (b1.mono hb.size)⟩
    · have HF : Hid (l.any (mine r t) = false) := any_miss (fun i x hi hx => Hall.out i x (by omega) hx)
      clear e0 e1
      go_wp2
      go_ret
      exact ⟨⟨_, rfl, by rw [HF.out]; simp⟩, hb⟩
set_option maxRecDepth 100000 in
set_option maxHeartbeats 2000000 in
theorem idxMine_nil (fn : Value) (a : Option Addr) (cap : Nat) (w : World) :
    Calls Tryd.prog 40 #[.slice a 0 cap, fn] w fun e w' => e = .returned (.int .i64 (-1)) ∧ Below w.heap.size w w' := by
  go_enter Tryd.func40, Tryd.ntmps40
  go_wp2
  refine wp_loop_rounds 1 ?_
  rw [rounds_succ]
  go_wp2
  go_ret
  exact ⟨rfl, Below.refl _ _⟩
set_option maxRecDepth 100000 in
set_option maxHeartbeats 2000000 in
theorem conMine (l : List S3) (v : Value) (r t : Int) (rb tb : Nat) (w : World) (k0 : w.cell? ⟨rb, 0, none⟩ = some (.int .i64 r)) (k1 : w.cell? ⟨tb, 0, none⟩ = some (.int .i64 t)) (hlen : l.length ≤ 12) (hl : Sps w v l) :
    Calls Tryd.prog 23 #[v, .func (.func 24) #[] #[.pointer (some ⟨rb, 0, none⟩), .pointer (some ⟨tb, 0, none⟩)]] w fun e w' =>
      e = .returned (.bool (l.any (mine r t))) ∧ Below w.heap.size w w' := by
  rcases hl with ⟨rfl, ao, cap, rfl⟩ | ⟨b, off, cap, rfl, _, hlt, hc⟩
  · have h := idxMine_nil (.func (.func 24) #[] #[.pointer (some ⟨rb, 0, none⟩), .pointer (some ⟨tb, 0, none⟩)]) ao cap w
    clear k0 k1
    go_enter Tryd.func23, Tryd.ntmps23
    go_wp2_with (go_at_call 40; refine h.mono ?_; rintro e w1 ⟨rfl, bb⟩; clear h)
    go_ret
    exact ⟨rfl, bb⟩
  · have h := idxMine l r t b off cap rb tb w k0 k1 hlen hlt hc
    clear k0 k1 hc
    go_enter Tryd.func23, Tryd.ntmps23
    go_wp2_with (go_at_call 40; refine h.mono ?_; rintro e w1 ⟨⟨q, rfl, hq⟩, bb⟩; clear h; have HR : Hid (decide (0 ≤ q) = l.any (mine r t)) := hq; clear hq)
    go_ret
    exact ⟨retB HR.out, bb⟩
/-- A row that is being laid. -/
def RwN (w : World) (g n : Nat) (P : Nat → Bool) : Prop := ∀ i, i < n → w.cell? ⟨g, i, none⟩ = some (.bool (P i)) ∧ w.frozen? ⟨g, i, none⟩ = false
theorem RwN.below {w w' : World} {g n B : Nat} {P : Nat → Bool} (h : RwN w g n P) (hb : Below B w w') (hB : g < B) : RwN w' g n P := fun i hi =>
  ⟨(hb.cell (p := ⟨g, _, none⟩) hB).trans (h i hi).1, (hb.frozen (p := ⟨g, _, none⟩) hB).trans (h i hi).2⟩
theorem RwN.set {w : World} {g n : Nat} {P : Nat → Bool} (h : RwN w g n P) {k : Nat} (hk : k < n) (b : Bool) : RwN (w.setCell ⟨g, k, none⟩ (.bool b)) g n (fun i => if i = k then b else P i) := fun i hi => by
  obtain ⟨h1, h2⟩ := h i hi
  refine ⟨?_, (World.frozen?_setCell _ _ _ _).trans h2⟩
  by_cases he : i = k
  · subst he
    simp [go_sem, h1]
  · simp only [if_neg he]
    rw [World.cell?_setCell_other _ _ _ _ (by intro e; injection e with _ e2; omega)]
    exact h1
theorem made_row (n : Nat) (hn : n ≤ 40) (W : World) : (Instr.makeSlice 42 (.int .i64 n) (.int .i64 n)).run Tryd.prog W = .ok (.slice (some ⟨W.heap.size, 0, none⟩) n n) (W.alloc (.cells (madeCells #[.bool false] n) 4)) := by
  obtain ⟨i, hi, hz⟩ : ∃ i, Tryd.prog.info? 4 = some i ∧ (i.zero, i.size, i.bytes) = (some (.bool false), 1, 1) := by
    have : (Tryd.prog.info? 4).map (fun i => (i.zero, i.size, i.bytes)) = some (some (.bool false), 1, 1) := by kernel_rfl
    cases hq : Tryd.prog.info? 4 with
    | none => rw [hq] at this; cases this
    | some i => rw [hq] at this; exact ⟨i, rfl, Option.some.inj this⟩
  simp only [Prod.mk.injEq] at hz
  obtain ⟨hz1, hz2, hz3⟩ := hz
  have := run_make (P := Tryd.prog) W 42 4 i _ (by kernel_rfl) hi hz1 .i64 .i64 n n (by omega) (Int.le_refl _) (by rw [hz3]; omega) (by omega)
  rw [hz2] at this
  simpa [Value.cells] using this
end Go.Proofs.YtkoomlnndnjllahDoor
