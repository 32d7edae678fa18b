/-
  Named, ReadOp: joined into one text.
-/
import Derived.Test.YtamnfadngbbaeacGreatDoorOpLine
import Derived.Lib.Strings
import Derived.Test.YtamnfadngbbaeacGreatDoorRead
namespace Go.Proofs.YtamnfadngbbaeacGreatDoor
open Go.RowKit

set_option maxRecDepth 100000 in
set_option maxHeartbeats 2000000 in
theorem named_any (s : ByteArray) (w : World) (hf : Forms w) :
    Calls Tryz.prog 100 #[.string s] w fun e w' => e = .returned (.int .i64 (namedB s.data.toList)) ∧ w' = w := by
  have hst : s.toList = s.data.toList := Lib.toList_data s
  go_enter Tryz.func100, Tryz.ntmps100
  go_wp2
  go_loop [3] (fun i => ∃ k : Nat, 1 ≤ k ∧ k ≤ 12 ∧ i = .int .i64 k ∧ ∀ j : Nat, 1 ≤ j → j < k → s.data.toList ≠ nameB j) (fun i => 12 - (intOf i).toNat)
  case atStart => exact ⟨1, by omega, by omega, rfl, fun j h1 h2 => by omega⟩
  case round =>
    obtain ⟨k, hk1, hk2, rfl, hall⟩ := hrel
    have HA : Hid (∀ j : Nat, 1 ≤ j → j < k → s.data.toList ≠ nameB j) := hall
    clear hall
    by_cases hk : k ≤ 11
    · have hc := forms_name hf k hk1 hk
      by_cases he : s.data.toList = nameB k
      · have ht : (nameB k == s.toList) = true := by rw [hst, he]; simp
        have HE : Hid (namedB s.data.toList = k) := by show _ = _; rw [he]; exact named_hit k hk1 hk
        clear hst he hf
        go_wp2
        go_ret
        exact ⟨ret_int HE.out.symm, rfl⟩
      · have ht : (nameB k == s.toList) = false := by rw [hst]; simp; exact fun e => he e.symm
        have HE : Hid (s.data.toList ≠ nameB k) := he
        clear hst he hf
        go_wp2
        go_round
        case rel =>
          refine ⟨k + 1, by omega, by omega, by go_num, fun j h1 h2 => ?_⟩
          by_cases hj : j < k
          · exact HA.out j h1 hj
          · obtain rfl : j = k := by omega
            exact HE.out
        case measure => simp [intOf]; omega
    · have HE : Hid (namedB s.data.toList = 0) := named_miss fun j h1 h2 => HA.out j h1 (by omega)
      clear hst hf
      go_wp2
      go_ret
      exact ⟨ret_int HE.out.symm, rfl⟩
end Go.Proofs.YtamnfadngbbaeacGreatDoor
namespace Go.Proofs.YtamnfadngbbaeacGreatDoor
open Go.RowKit

/-- A slice of the numbers that are left, from place o of a row g on. -/
def NV (g : Nat) (v : Value) (r : List Int) (o : Nat) : Prop := (r = [] ∧ ∃ ao c, v = .slice ao 0 c) ∨ (∃ c, v = .slice (some ⟨g, o, none⟩) r.length c ∧ r.length ≤ c)
/-- What k rounds have said. -/
def St (p q : Int) (ns : List Int) : Nat → Int → Int → List Int → Prop
  | 0, x, y, r => x = 0 ∧ y = 0 ∧ r = ns
  | 1, x, y, r => y = 0 ∧ stepN p ns = some (x, r)
  | _, x, y, r => ∃ r1, stepN p ns = some (x, r1) ∧ stepN q r1 = some (y, r)

set_option maxRecDepth 1000000 in
set_option maxHeartbeats 4000000 in
theorem readop_fail1 (s : ByteArray) (w : World) (ht : Tabs2 w)
    (hrd : Calls Tryz.prog 55 #[.string s, .int .i64 4] (w.alloc (.cells #[.int .i64 0, .int .i64 0, .int .i64 0] 73)) fun e w' => (∃ p ao n c, e = .returned (.tuple #[.string p, .slice ao n c, .bool false]) ∧ (True)) ∧ Below (w.heap.size + 1) (w.alloc (.cells #[.int .i64 0, .int .i64 0, .int .i64 0] 73)) w') :
    Calls Tryz.prog 84 #[.string s] w fun e w' => e = .returned (.tuple #[.agg #[.int .i64 0, .int .i64 0, .int .i64 0], .bool false]) ∧ Below w.heap.size w w' := by
  go_enter Tryz.func84, Tryz.ntmps84
  go_wp2_with (first | (go_at_call 55; refine hrd.mono ?_; rintro e w1 ⟨⟨p, ao, n, c, rfl, hok⟩, b1⟩; clear hrd; obtain ⟨k0, k1, k2, j0, j1, j2, bw⟩ := op_box b1; have hf1 := ht.tabs.forms.all bw; clear b1) | (go_at_call 100; refine (named_any p w1 hf1).mono ?_; rintro e w' ⟨rfl, hw'⟩; subst hw'))
  refine bodyPost_ret (v := .tuple #[.agg #[.int .i64 0, .int .i64 0, .int .i64 0], .bool false]) ?_ rfl ⟨rfl, ?_⟩
  · simp [results, Tryz.results84, go_sem, k0, k1, k2]
  · exact ((bw.setCell (p := ⟨w.heap.size, 0, none⟩) (Nat.le_refl _) _).setCell (p := ⟨w.heap.size, 1, none⟩) (Nat.le_refl _) _).setCell (p := ⟨w.heap.size, 2, none⟩) (Nat.le_refl _) _
set_option maxRecDepth 1000000 in
set_option maxHeartbeats 4000000 in
theorem readop_fail2 (s : ByteArray) (w : World) (ht : Tabs2 w)
    (hrd : Calls Tryz.prog 55 #[.string s, .int .i64 4] (w.alloc (.cells #[.int .i64 0, .int .i64 0, .int .i64 0] 73)) fun e w' => (∃ p ao n c, e = .returned (.tuple #[.string p, .slice ao n c, .bool true]) ∧ (namedB p.data.toList = 0)) ∧ Below (w.heap.size + 1) (w.alloc (.cells #[.int .i64 0, .int .i64 0, .int .i64 0] 73)) w') :
    Calls Tryz.prog 84 #[.string s] w fun e w' => e = .returned (.tuple #[.agg #[.int .i64 0, .int .i64 0, .int .i64 0], .bool false]) ∧ Below w.heap.size w w' := by
  go_enter Tryz.func84, Tryz.ntmps84
  go_wp2_with (first | (go_at_call 55; refine hrd.mono ?_; rintro e w1 ⟨⟨p, ao, n, c, rfl, hok⟩, b1⟩; clear hrd; obtain ⟨k0, k1, k2, j0, j1, j2, bw⟩ := op_box b1; have hf1 := ht.tabs.forms.all bw; clear b1) | (go_at_call 100; refine (named_any p w1 hf1).mono ?_; rintro e w' ⟨rfl, hw'⟩; subst hw'))
  refine bodyPost_ret (v := .tuple #[.agg #[.int .i64 0, .int .i64 0, .int .i64 0], .bool false]) ?_ rfl ⟨rfl, ?_⟩
  · simp [results, Tryz.results84, go_sem, k0, k1, k2]
  · exact ((bw.setCell (p := ⟨w.heap.size, 0, none⟩) (Nat.le_refl _) _).setCell (p := ⟨w.heap.size, 1, none⟩) (Nat.le_refl _) _).setCell (p := ⟨w.heap.size, 2, none⟩) (Nat.le_refl _) _

theorem readop_fail (s : ByteArray) (w : World) (ht : Tabs2 w) (hl : s.size ≤ 1099511627776) (hr : readB s.data.toList = none ∨ ∃ p ns, readB s.data.toList = some (p, ns) ∧ namedB p = 0) :
    Calls Tryz.prog 84 #[.string s] w fun e w' => e = .returned (.tuple #[.agg #[.int .i64 0, .int .i64 0, .int .i64 0], .bool false]) ∧ Below w.heap.size w w' := by
  rcases hr with hr | ⟨p0, ns0, hr, h0⟩
  · refine readop_fail1 s w ht ((read_any s _ (ht.alloc _) hl).mono ?_)
    rintro e w' ⟨⟨p, ns, vv, h1, rfl, h3⟩ | ⟨h1, rfl⟩, hb⟩
    · rw [h1] at hr; cases hr
    · exact ⟨⟨_, _, _, _, rfl, trivial⟩, by simpa using hb⟩
  · refine readop_fail2 s w ht ((read_any s _ (ht.alloc _) hl).mono ?_)
    rintro e w' ⟨⟨p, ns, vv, h1, rfl, h3⟩ | ⟨h1, rfl⟩, hb⟩
    · obtain ⟨ao, nn, cap, rfl⟩ : ∃ ao nn cap, vv = .slice ao nn cap := by
        rcases h3.2 with ⟨h, _⟩ | ⟨g, cap, cur, h, _⟩
        · exact ⟨_, _, _, h⟩
        · exact ⟨_, _, _, h⟩
      rw [h1] at hr
      cases hr
      exact ⟨⟨_, _, _, _, rfl, by simpa using h0⟩, by simpa using hb⟩
    · rw [h1] at hr; cases hr

/-- A box of two cells. -/
def Two (W : World) (S : Nat) (x y : Int) : Prop := W.heap[S]? = some (.cells #[.int .i64 x, .int .i64 y] 136 (0, 0))
theorem Two.c0 {W : World} {S : Nat} {x y : Int} (h : Two W S x y) : W.cell? ⟨S, 0, none⟩ = some (.int .i64 x) := by simp [World.cell?, show W.heap[S]? = _ from h]
theorem Two.c1 {W : World} {S : Nat} {x y : Int} (h : Two W S x y) : W.cell? ⟨S, 1, none⟩ = some (.int .i64 y) := by simp [World.cell?, show W.heap[S]? = _ from h]
theorem Two.f {W : World} {S : Nat} {x y : Int} (h : Two W S x y) (j : Nat) : W.frozen? ⟨S, j, none⟩ = false := by simp [World.frozen?, show W.heap[S]? = _ from h]
theorem Two.set0 {W : World} {S : Nat} {x y : Int} (h : Two W S x y) (z : Int) : Two (W.setCell ⟨S, 0, none⟩ (.int .i64 z)) S z y := by
  unfold Two at h ⊢
  simp [World.setCell, Array.getElem?_modify, h]
theorem Two.set1 {W : World} {S : Nat} {x y : Int} (h : Two W S x y) (z : Int) : Two (W.setCell ⟨S, 1, none⟩ (.int .i64 z)) S x z := by
  unfold Two at h ⊢
  simp [World.setCell, Array.getElem?_modify, h]
theorem Two.lt {W : World} {S : Nat} {x y : Int} (h : Two W S x y) : S < W.heap.size := (Array.getElem?_eq_some_iff.1 h).1

theorem nv_form {g : Nat} {v : Value} {r : List Int} {o : Nat} (h : NV g v r o) : ∃ ao n c, v = .slice ao n c := by
  rcases h with ⟨_, ao, c, h⟩ | ⟨c, h, _⟩
  · exact ⟨_, _, _, h⟩
  · exact ⟨_, _, _, h⟩
theorem nv_nil {g : Nat} {v : Value} {o : Nat} (h : NV g v [] o) : ∃ ao c, v = .slice ao 0 c := by
  rcases h with ⟨_, ao, c, h⟩ | ⟨c, h, _⟩
  · exact ⟨_, _, h⟩
  · exact ⟨_, _, h⟩
theorem nv_cons {g : Nat} {v : Value} {z : Int} {r : List Int} {o : Nat} (h : NV g v (z :: r) o) : ∃ c, v = .slice (some ⟨g, o, none⟩) (r.length + 1) c ∧ r.length + 1 ≤ c := by
  rcases h with ⟨h, _⟩ | ⟨c, h, hc⟩
  · cases h
  · exact ⟨c, h, hc⟩
theorem nv_tail {g o c : Nat} {r : List Int} (h : r.length + 1 ≤ c) : NV g (.slice (if c = 1 then some ⟨g, o, none⟩ else some ⟨g, o + 1, none⟩) r.length (c - 1)) r (o + 1) := by
  by_cases hc : c = 1
  · subst hc
    have h0 : r.length = 0 := by omega
    exact Or.inl ⟨List.eq_nil_of_length_eq_zero h0, _, _, by rw [h0]⟩
  · rw [if_neg hc]
    exact Or.inr ⟨c - 1, rfl, by omega⟩
set_option maxRecDepth 1000000 in
set_option maxHeartbeats 8000000 in
theorem readop_main (s p : ByteArray) (ns : List Int) (k : Nat) (w : World) (ht : Tabs2 w) (hk1 : 1 ≤ k) (hk2 : k ≤ 11) (hnm : namedB p.data.toList = k)
    (hrd : Calls Tryz.prog 55 #[.string s, .int .i64 4] (w.alloc (.cells #[.int .i64 0, .int .i64 0, .int .i64 0] 73)) fun e w' => (∃ g ao n c, e = .returned (.tuple #[.string p, .slice ao n c, .bool true]) ∧ NV g (.slice ao n c) ns 0 ∧ ∀ (i : Nat) z, ns[i]? = some z → g < w'.heap.size ∧ w'.cell? ⟨g, i, none⟩ = some (.int .i64 z)) ∧ Below (w.heap.size + 1) (w.alloc (.cells #[.int .i64 0, .int .i64 0, .int .i64 0] 73)) w') :
    Calls Tryz.prog 84 #[.string s] w fun e w' => e = .returned (opRes (asm2 (pA k) (pB k) k ns)) ∧ Below w.heap.size w w' := by
  obtain ⟨P, hP⟩ : ∃ P, P = pA k := ⟨_, rfl⟩
  obtain ⟨Q, hQ⟩ : ∃ Q, Q = pB k := ⟨_, rfl⟩
  rw [← hP, ← hQ]
  go_enter Tryz.func84, Tryz.ntmps84
  go_wp2_with (first | (go_at_call 55; refine hrd.mono ?_; rintro e w1 ⟨⟨g, ao, n, c, rfl, hnv, hcl⟩, b1⟩; clear hrd; obtain ⟨k0, k1, k2, j0, j1, j2, bw⟩ := op_box b1; have hf1 := ht.tabs.forms.all bw; obtain ⟨t1, t2⟩ := forms_at hf1 k hk1 hk2; rw [← hP] at t1; rw [← hQ] at t2; have hglt := hf1.lt; clear hP hQ) | (go_at_call 100; refine (named_any p w1 hf1).mono ?_; rw [hnm]; rintro e W1 ⟨rfl, hw'⟩; subst hw'; clear hnm))
  clear t1 t2 hf1
  have i0 := ix0 P Q
  have i1 := ix1 P Q
  have hsz1 : w.heap.size + 1 ≤ W1.heap.size := by have := b1.size; simp at this; omega
  go_loopw [5, 30] (fun v i wr => ∃ (kk : Nat) (x y : Int) (r : List Int) (o : Nat), kk ≤ 2 ∧ i = .int .i64 kk ∧ NV g v r o ∧ r = ns.drop o ∧ St P Q ns kk x y r ∧ Two wr W1.heap.size x y ∧ Below W1.heap.size W1 wr) (fun _ i _ => 2 - (intOf i).toNat)
  case atStart => exact ⟨0, 0, 0, ns, 0, by omega, rfl, hnv, by simp, ⟨rfl, rfl, rfl⟩, World.alloc_heap_new W1 _, (Below.refl _ _).alloc (Nat.le_refl _) _⟩
  case round =>
    obtain ⟨kk, x, y, r, o, hkk, rfl, hv, hr, hst, htw, hb⟩ := hrel
    have e0 : wr.cell? ⟨w.heap.size, 0, none⟩ = some (.int .i64 0) := (hb.cell (p := ⟨w.heap.size, 0, none⟩) (by simp; omega)).trans k0
    have e1 : wr.cell? ⟨w.heap.size, 1, none⟩ = some (.int .i64 0) := (hb.cell (p := ⟨w.heap.size, 1, none⟩) (by simp; omega)).trans k1
    have e2 : wr.cell? ⟨w.heap.size, 2, none⟩ = some (.int .i64 0) := (hb.cell (p := ⟨w.heap.size, 2, none⟩) (by simp; omega)).trans k2
    have g0 : wr.frozen? ⟨w.heap.size, 0, none⟩ = false := (hb.frozen (p := ⟨w.heap.size, 0, none⟩) (by simp; omega)).trans j0
    have g1 : wr.frozen? ⟨w.heap.size, 1, none⟩ = false := (hb.frozen (p := ⟨w.heap.size, 1, none⟩) (by simp; omega)).trans j1
    have g2 : wr.frozen? ⟨w.heap.size, 2, none⟩ = false := (hb.frozen (p := ⟨w.heap.size, 2, none⟩) (by simp; omega)).trans j2
    have s0 := htw.c0
    have s1 := htw.c1
    have sf0 := htw.f 0
    have sf1 := htw.f 1
    have bw2 : Below w.heap.size w wr := bw.trans (hb.mono (by omega))
    have hcase : kk = 0 ∨ kk = 1 ∨ kk = 2 := by omega
    have hfail : Below w.heap.size w (((wr.setCell ⟨w.heap.size, 0, none⟩ (.int .i64 0)).setCell ⟨w.heap.size, 1, none⟩ (.int .i64 0)).setCell ⟨w.heap.size, 2, none⟩ (.int .i64 0)) :=
      ((bw2.setCell (p := ⟨w.heap.size, 0, none⟩) (Nat.le_refl _) _).setCell (p := ⟨w.heap.size, 1, none⟩) (Nat.le_refl _) _).setCell (p := ⟨w.heap.size, 2, none⟩) (Nat.le_refl _) _
    rcases hcase with rfl | rfl | rfl
    · obtain ⟨hx0, hy0, hrn⟩ := hst
      subst hx0 hy0
      have hst : r = ns := hrn
      by_cases hp1 : P = 1
      · subst hp1
        clear hfail
        obtain ⟨ao', n', c', hv'⟩ := nv_form hv
        subst hv'
        go_wp2
        go_roundw
        case rel => exact ⟨1, 0, 0, r, o, by omega, by go_num, hv, hr, ⟨rfl, by rw [hst]; exact stepN_one ns⟩, htw, hb⟩
        case measure => simp [intOf]
      · have hp1' : (P == 1) = false := by simpa using hp1
        cases r with
        | nil =>
          obtain ⟨ao', c', hv'⟩ := nv_nil hv
          subst hv'
          have HN : Hid (asm2 P Q k ns = none) := by show _ = _; rw [← hst]; unfold asm2; rw [stepN_nil hp1]
          clear hr hst hp1
          go_wp2
          refine bodyPost_ret (v := .tuple #[.agg #[.int .i64 0, .int .i64 0, .int .i64 0], .bool false]) ?_ rfl ?_
          · simp [results, Tryz.results84, go_sem, e0, e1, e2]
          · rw [HN.out]; exact ⟨rfl, hfail⟩
        | cons z r' =>
          clear hfail
          obtain ⟨c', hv', hc'⟩ := nv_cons hv
          subst hv'
          have hz : ns[o]? = some z := by
            have := congrArg (fun l => l[0]?) hr
            simpa using this.symm
          have hr' : Hid (r' = ns.drop (o + 1)) := by
            have := congrArg List.tail hr
            show _ = _
            simpa using this
          obtain ⟨hgl, hgc⟩ := hcl o z hz
          have hcz : wr.cell? ⟨g, o, none⟩ = some (.int .i64 z) := (hb.cell (p := ⟨g, o, none⟩) hgl).trans hgc
          have hne : g ≠ W1.heap.size := by omega
          have hlen : (1 : Int) ≤ (r'.length : Int) + 1 := by omega
          have HS : Hid (stepN P ns = some (z, r')) := by show _ = _; rw [← hst]; exact stepN_cons hp1 z r'
          have htw2 := htw.set0 z
          have hb2 := hb.setCell (p := ⟨W1.heap.size, 0, none⟩) (Nat.le_refl _) (.int .i64 z)
          clear hr hst hz hgc hv hp1
          go_wp2
          go_region
          all_goals go_wp2
          go_roundw
          case rel => exact ⟨1, z, 0, r', o + 1, by omega, by go_num, nv_tail hc', hr'.out, ⟨rfl, HS.out⟩, htw2, hb2.drew⟩
          case measure => simp [intOf]
    · obtain ⟨hy0, hst⟩ := hst
      subst hy0
      by_cases hp1 : Q = 1
      · subst hp1
        clear hfail
        obtain ⟨ao', n', c', hv'⟩ := nv_form hv
        subst hv'
        go_wp2
        go_roundw
        case rel => exact ⟨2, x, 0, r, o, by omega, by go_num, hv, hr, ⟨r, hst, stepN_one r⟩, htw, hb⟩
        case measure => simp [intOf]
      · have hp1' : (Q == 1) = false := by simpa using hp1
        cases r with
        | nil =>
          obtain ⟨ao', c', hv'⟩ := nv_nil hv
          subst hv'
          have HN : Hid (asm2 P Q k ns = none) := by show _ = _; unfold asm2; rw [hst]; simp only; rw [stepN_nil hp1]
          clear hr hst hp1
          go_wp2
          refine bodyPost_ret (v := .tuple #[.agg #[.int .i64 0, .int .i64 0, .int .i64 0], .bool false]) ?_ rfl ?_
          · simp [results, Tryz.results84, go_sem, e0, e1, e2]
          · rw [HN.out]; exact ⟨rfl, hfail⟩
        | cons z r' =>
          clear hfail
          obtain ⟨c', hv', hc'⟩ := nv_cons hv
          subst hv'
          have hz : ns[o]? = some z := by
            have := congrArg (fun l => l[0]?) hr
            simpa using this.symm
          have hr' : Hid (r' = ns.drop (o + 1)) := by
            have := congrArg List.tail hr
            show _ = _
            simpa using this
          obtain ⟨hgl, hgc⟩ := hcl o z hz
          have hcz : wr.cell? ⟨g, o, none⟩ = some (.int .i64 z) := (hb.cell (p := ⟨g, o, none⟩) hgl).trans hgc
          have hne : g ≠ W1.heap.size := by omega
          have hlen : (1 : Int) ≤ (r'.length : Int) + 1 := by omega
          have HS : Hid (∃ r1, stepN P ns = some (x, r1) ∧ stepN Q r1 = some (z, r')) := ⟨_, hst, stepN_cons hp1 z r'⟩
          have htw2 := htw.set1 z
          have hb2 := hb.setCell (p := ⟨W1.heap.size, 1, none⟩) (Nat.le_refl _) (.int .i64 z)
          clear hr hst hz hgc hv hp1
          go_wp2
          go_region
          all_goals go_wp2
          go_roundw
          case rel => exact ⟨2, x, z, r', o + 1, by omega, by go_num, nv_tail hc', hr'.out, HS.out, htw2, hb2.drew⟩
          case measure => simp [intOf]
    · obtain ⟨r1, hs1, hs2⟩ := hst
      cases r with
      | nil =>
        obtain ⟨ao', c', hv'⟩ := nv_nil hv
        subst hv'
        have HN : Hid (asm2 P Q k ns = some ((k : Int), x, y)) := by show _ = _; unfold asm2; rw [hs1]; simp only; rw [hs2]; simp
        have hdone : Below w.heap.size w (((wr.setCell ⟨w.heap.size, 0, none⟩ (.int .i64 k)).setCell ⟨w.heap.size, 1, none⟩ (.int .i64 x)).setCell ⟨w.heap.size, 2, none⟩ (.int .i64 y)) :=
          ((bw2.setCell (p := ⟨w.heap.size, 0, none⟩) (Nat.le_refl _) _).setCell (p := ⟨w.heap.size, 1, none⟩) (Nat.le_refl _) _).setCell (p := ⟨w.heap.size, 2, none⟩) (Nat.le_refl _) _
        clear hr hs1 hs2 hfail
        go_wp2
        refine bodyPost_ret (v := .tuple #[.agg #[.int .i64 k, .int .i64 x, .int .i64 y], .bool true]) ?_ rfl ?_
        · simp [results, Tryz.results84, go_sem, e0, e1, e2]
        · rw [HN.out]; exact ⟨rfl, hdone⟩
      | cons z r' =>
        obtain ⟨c', hv', hc'⟩ := nv_cons hv
        subst hv'
        have HN : Hid (asm2 P Q k ns = none) := by show _ = _; unfold asm2; rw [hs1]; simp only; rw [hs2]; simp
        have hlen : ((r'.length : Int) + 1 == 0) = false := by simp; omega
        clear hr hs1 hs2
        go_wp2
        refine bodyPost_ret (v := .tuple #[.agg #[.int .i64 0, .int .i64 0, .int .i64 0], .bool false]) ?_ rfl ?_
        · simp [results, Tryz.results84, go_sem, e0, e1, e2]
        · rw [HN.out]; exact ⟨rfl, hfail⟩

theorem nv_of_own {w : World} {base : Nat} {v : Value} {ns : List Int} (h : w.ownsRow base 3 1 v ns.length (ns.map (Value.int .i64))) :
    ∃ g ao n c, v = .slice ao n c ∧ NV g (.slice ao n c) ns 0 ∧ ∀ (i : Nat) z, ns[i]? = some z → g < w.heap.size ∧ w.cell? ⟨g, i, none⟩ = some (.int .i64 z) := by
  have hl := h.lt
  have hcs := @World.ownsRow.cells _ _ _ _ _ _ _ h
  rcases h.2 with ⟨rfl, h0⟩ | ⟨g, cap, cur, rfl, _, _, hcap, _⟩
  · have : ns = [] := List.eq_nil_of_length_eq_zero h0
    subst this
    exact ⟨0, none, 0, 0, rfl, Or.inl ⟨rfl, _, _, rfl⟩, fun i z hz => by simp at hz⟩
  · refine ⟨g, _, _, _, rfl, Or.inr ⟨cap, rfl, hcap⟩, fun i z hz => ⟨(hl g rfl).2, ?_⟩⟩
    have := hcs rfl i (.int .i64 z) (by simp [hz])
    unfold Addr.add at this
    split at this
    · rename_i h0; subst h0; exact this
    · simpa using this

theorem readop_any (s : ByteArray) (w : World) (ht : Tabs2 w) (hl : s.size ≤ 1099511627776) :
    Calls Tryz.prog 84 #[.string s] w fun e w' => e = .returned (opRes (opRead s.data.toList)) ∧ Below w.heap.size w w' := by
  unfold opRead
  cases hr : readB s.data.toList with
  | none => exact readop_fail s w ht hl (Or.inl hr)
  | some pn =>
    obtain ⟨p, ns⟩ := pn
    simp only
    rcases named_cases p with h0 | ⟨k, h1, h2, h3, _⟩
    · rw [h0]
      exact readop_fail s w ht hl (Or.inr ⟨p, ns, hr, h0⟩)
    · rw [h3]
      unfold asm
      rw [if_neg (by omega)]
      refine readop_main s ⟨p.toArray⟩ ns k w ht h1 h2 h3 ((read_any s _ (ht.alloc _) hl).mono ?_)
      rintro e w' ⟨⟨p', ns', vv, h1', rfl, h3'⟩ | ⟨h1', rfl⟩, hb⟩
      · rw [hr] at h1'
        obtain ⟨rfl, rfl⟩ := Prod.mk.inj (Option.some.inj h1')
        obtain ⟨g, ao, n, c, rfl, hnv, hcl⟩ := nv_of_own h3'
        exact ⟨⟨g, ao, n, c, rfl, hnv, hcl⟩, by simpa using hb⟩
      · rw [hr] at h1'; cases h1'
end Go.Proofs.YtamnfadngbbaeacGreatDoor
