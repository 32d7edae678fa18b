/-
  WOpen, Trod, RefPut, FCheck, FWho, Wires, WiresTop: joined into one text.
-/
import Derived.Test.YtfconbblnmbnpafGreatDoorJa3
import Derived.Test.YtfconbblnmbnpafGreatDoorJa1
import Derived.Lib.SmallJoins
import Derived.Deep.Slices
import Derived.Test.YtfconbblnmbnpafGreatDoorJa2
import Derived.OwnWalk
namespace Go.Proofs.YtfconbblnmbnpafGreatDoor
open Go.ChangeShapes Go.WideShapes Go.ChangeAt Go.WideElems Go.RowKit Go.Deep

set_option maxRecDepth 100000 in
theorem open_wire {H : Type} {enc : TypeId × Value → H} {W : World} {base b0 : Nat} {sp : Nat → Bool} {held : Bool} {r : Reach} {v : Value} {d : DataW H} {p : List MemPlace} (hv : Value.okWide Tryz.prog W r b0 63 v)
    (h : DataW.Trod enc Tryz.prog W base sp held 63 v d p) : ∃ f t k q : Int, v = wV f t k q := by
  obtain ⟨v0, v1, v2, v3, y0, y1, y2, y3, m, rfl, _, _, h0, h1, h2, h3⟩ := Joins.open_agg4 Tryz.underlying63 (by kernel_rfl) (by kernel_rfl) hv h
  obtain ⟨n, e0, _, _⟩ := DataW.trod_int Tryz.underlying3 h0
  obtain ⟨a, e1, _, _⟩ := DataW.trod_int Tryz.underlying3 h1
  obtain ⟨b, e2, _, _⟩ := DataW.trod_int Tryz.underlying3 h2
  obtain ⟨c, e3, _, _⟩ := DataW.trod_int Tryz.underlying3 h3
  simp only [List.cons.injEq, and_true] at e0 e1 e2 e3
  subst e0; subst e1; subst e2; subst e3
  exact ⟨n, a, b, c, rfl⟩
theorem spot_none {W : World} {a : Addr} {v : Value} (h : W.cell? a = some v) : a = ⟨a.block, a.off, none⟩ ∧ a.block < W.heap.size := by
  obtain ⟨b, o, s⟩ := a
  unfold World.cell? at h
  simp only at h
  cases hb : W.heap[b]? with
  | none => rw [hb] at h; cases h
  | some x =>
    rw [hb] at h
    refine ⟨?_, (Array.getElem?_eq_some_iff.1 hb).1⟩
    cases x <;> simp at h
    cases s with
    | none => rfl
    | some s => simp at h
set_option maxRecDepth 100000 in
theorem open_stp {H : Type} {enc : TypeId × Value → H} {W : World} {b0 : Nat} {r : Reach} {v : Value} {d : DataW H} {p : List MemPlace} (hv : Value.okWide Tryz.prog W r b0 27 v)
    (h : DataW.Trod enc Tryz.prog W 0 (fun _ => true) true 27 v d p) : ∃ l : List Int, Stp W v l := by
  obtain ⟨a0, len0, cap0, rfl⟩ := okWide_slice Tryz.underlying27 hv
  obtain ⟨fuel, hf⟩ := h
  rcases open_ints Tryz.underlying27 Tryz.underlying3 (by kernel_rfl) hf with ⟨hcs, _⟩ | ⟨a, len, cap, zs, hcs, _, hl, _, hz, _, hc, _⟩
  · simp [Value.cells] at hcs
    obtain ⟨rfl, rfl, rfl⟩ := hcs
    exact ⟨[], Or.inl ⟨rfl, _, _, rfl⟩⟩
  · simp [Value.cells] at hcs
    obtain ⟨rfl, rfl, rfl⟩ := hcs
    have hlz : len0 ≤ zs.length := by rw [hz]; simpa using hl
    by_cases h0 : len0 = 0
    · subst h0
      exact ⟨[], Or.inl ⟨rfl, _, _, rfl⟩⟩
    · have hz0 := hc 0 (by omega)
      rw [show a.add 0 = a from by simp [Addr.add]] at hz0
      obtain ⟨ha, hlt⟩ := spot_none hz0
      have hlen : (zs.take len0).length = len0 := by rw [List.length_take]; omega
      refine ⟨zs.take len0, Or.inr ⟨a.block, a.off, cap0, by rw [hlen, ← ha], hlt, fun i x hx => ?_⟩⟩
      have hi : i < len0 := by
        have := (List.getElem?_eq_some_iff.1 hx).1
        omega
      have h1 := hc i (by omega)
      rw [ha, Addr.add_lit] at h1
      rw [List.getElem?_take, if_pos hi] at hx
      rw [List.getD_eq_getElem?_getD, hx] at h1
      exact h1
end Go.Proofs.YtfconbblnmbnpafGreatDoor
namespace Go.Proofs.YtfconbblnmbnpafGreatDoor
open Go.ChangeShapes

theorem trodAll_four {H : Type} {enc : TypeId × Value → H} {P : Program} {w : World} {base : Nat} {spare : Nat → Bool} {held : Bool} {t0 t1 t2 t3 : TypeId} {args : Array Value} {ds : List (DataW H)} {ps : List MemPlace} (h : DataW.TrodAll enc P w base spare held [t0, t1, t2, t3] args.toList ds ps) :
    ∃ v0 v1 v2 v3 d0 d1 d2 d3 p0 p1 p2 p3, args = #[v0, v1, v2, v3] ∧ ds = [d0, d1, d2, d3] ∧ DataW.Trod enc P w base spare held t0 v0 d0 p0 ∧ DataW.Trod enc P w base spare held t1 v1 d1 p1 ∧ DataW.Trod enc P w base spare held t2 v2 d2 p2 ∧ DataW.Trod enc P w base spare held t3 v3 d3 p3 := by
  obtain ⟨v0, vs0, d0, ds0, p0, q0, hargs, rfl, rfl, h0, r0⟩ := trodAll_cons h
  obtain ⟨v1, vs1, d1, ds1, p1, q1, rfl, rfl, rfl, h1, r1⟩ := trodAll_cons r0
  obtain ⟨v2, vs2, d2, ds2, p2, q2, rfl, rfl, rfl, h2, r2⟩ := trodAll_cons r1
  obtain ⟨v3, vs3, d3, ds3, p3, q3, rfl, rfl, rfl, h3, r3⟩ := trodAll_cons r2
  obtain ⟨rfl, rfl, rfl⟩ := trodAll_nil r3
  exact ⟨v0, v1, v2, v3, d0, d1, d2, d3, p0, p1, p2, p3, by cases args; simp_all, rfl, h0, h1, h2, h3⟩
theorem trodAll_five {H : Type} {enc : TypeId × Value → H} {P : Program} {w : World} {base : Nat} {spare : Nat → Bool} {held : Bool} {t0 t1 t2 t3 t4 : TypeId} {args : Array Value} {ds : List (DataW H)} {ps : List MemPlace} (h : DataW.TrodAll enc P w base spare held [t0, t1, t2, t3, t4] args.toList ds ps) :
    ∃ v0 v1 v2 v3 v4 d0 d1 d2 d3 d4 p0 p1 p2 p3 p4, args = #[v0, v1, v2, v3, v4] ∧ ds = [d0, d1, d2, d3, d4] ∧ DataW.Trod enc P w base spare held t0 v0 d0 p0 ∧ DataW.Trod enc P w base spare held t1 v1 d1 p1 ∧ DataW.Trod enc P w base spare held t2 v2 d2 p2 ∧ DataW.Trod enc P w base spare held t3 v3 d3 p3 ∧ DataW.Trod enc P w base spare held t4 v4 d4 p4 := by
  obtain ⟨v0, vs0, d0, ds0, p0, q0, hargs, rfl, rfl, h0, r0⟩ := trodAll_cons h
  obtain ⟨v1, vs1, d1, ds1, p1, q1, rfl, rfl, rfl, h1, r1⟩ := trodAll_cons r0
  obtain ⟨v2, vs2, d2, ds2, p2, q2, rfl, rfl, rfl, h2, r2⟩ := trodAll_cons r1
  obtain ⟨v3, vs3, d3, ds3, p3, q3, rfl, rfl, rfl, h3, r3⟩ := trodAll_cons r2
  obtain ⟨v4, vs4, d4, ds4, p4, q4, rfl, rfl, rfl, h4, r4⟩ := trodAll_cons r3
  obtain ⟨rfl, rfl, rfl⟩ := trodAll_nil r4
  exact ⟨v0, v1, v2, v3, v4, d0, d1, d2, d3, d4, p0, p1, p2, p3, p4, by cases args; simp_all, rfl, h0, h1, h2, h3, h4⟩
theorem trodAll_six {H : Type} {enc : TypeId × Value → H} {P : Program} {w : World} {base : Nat} {spare : Nat → Bool} {held : Bool} {t0 t1 t2 t3 t4 t5 : TypeId} {args : Array Value} {ds : List (DataW H)} {ps : List MemPlace} (h : DataW.TrodAll enc P w base spare held [t0, t1, t2, t3, t4, t5] args.toList ds ps) :
    ∃ v0 v1 v2 v3 v4 v5 d0 d1 d2 d3 d4 d5 p0 p1 p2 p3 p4 p5, args = #[v0, v1, v2, v3, v4, v5] ∧ ds = [d0, d1, d2, d3, d4, d5] ∧ DataW.Trod enc P w base spare held t0 v0 d0 p0 ∧ DataW.Trod enc P w base spare held t1 v1 d1 p1 ∧ DataW.Trod enc P w base spare held t2 v2 d2 p2 ∧ DataW.Trod enc P w base spare held t3 v3 d3 p3 ∧ DataW.Trod enc P w base spare held t4 v4 d4 p4 ∧ DataW.Trod enc P w base spare held t5 v5 d5 p5 := by
  obtain ⟨v0, vs0, d0, ds0, p0, q0, hargs, rfl, rfl, h0, r0⟩ := trodAll_cons h
  obtain ⟨v1, vs1, d1, ds1, p1, q1, rfl, rfl, rfl, h1, r1⟩ := trodAll_cons r0
  obtain ⟨v2, vs2, d2, ds2, p2, q2, rfl, rfl, rfl, h2, r2⟩ := trodAll_cons r1
  obtain ⟨v3, vs3, d3, ds3, p3, q3, rfl, rfl, rfl, h3, r3⟩ := trodAll_cons r2
  obtain ⟨v4, vs4, d4, ds4, p4, q4, rfl, rfl, rfl, h4, r4⟩ := trodAll_cons r3
  obtain ⟨v5, vs5, d5, ds5, p5, q5, rfl, rfl, rfl, h5, r5⟩ := trodAll_cons r4
  obtain ⟨rfl, rfl, rfl⟩ := trodAll_nil r5
  exact ⟨v0, v1, v2, v3, v4, v5, d0, d1, d2, d3, d4, d5, p0, p1, p2, p3, p4, p5, by cases args; simp_all, rfl, h0, h1, h2, h3, h4, h5⟩
theorem trodAll_seven {H : Type} {enc : TypeId × Value → H} {P : Program} {w : World} {base : Nat} {spare : Nat → Bool} {held : Bool} {t0 t1 t2 t3 t4 t5 t6 : TypeId} {args : Array Value} {ds : List (DataW H)} {ps : List MemPlace} (h : DataW.TrodAll enc P w base spare held [t0, t1, t2, t3, t4, t5, t6] args.toList ds ps) :
    ∃ v0 v1 v2 v3 v4 v5 v6 d0 d1 d2 d3 d4 d5 d6 p0 p1 p2 p3 p4 p5 p6, args = #[v0, v1, v2, v3, v4, v5, v6] ∧ ds = [d0, d1, d2, d3, d4, d5, d6] ∧ DataW.Trod enc P w base spare held t0 v0 d0 p0 ∧ DataW.Trod enc P w base spare held t1 v1 d1 p1 ∧ DataW.Trod enc P w base spare held t2 v2 d2 p2 ∧ DataW.Trod enc P w base spare held t3 v3 d3 p3 ∧ DataW.Trod enc P w base spare held t4 v4 d4 p4 ∧ DataW.Trod enc P w base spare held t5 v5 d5 p5 ∧ DataW.Trod enc P w base spare held t6 v6 d6 p6 := by
  obtain ⟨v0, vs0, d0, ds0, p0, q0, hargs, rfl, rfl, h0, r0⟩ := trodAll_cons h
  obtain ⟨v1, vs1, d1, ds1, p1, q1, rfl, rfl, rfl, h1, r1⟩ := trodAll_cons r0
  obtain ⟨v2, vs2, d2, ds2, p2, q2, rfl, rfl, rfl, h2, r2⟩ := trodAll_cons r1
  obtain ⟨v3, vs3, d3, ds3, p3, q3, rfl, rfl, rfl, h3, r3⟩ := trodAll_cons r2
  obtain ⟨v4, vs4, d4, ds4, p4, q4, rfl, rfl, rfl, h4, r4⟩ := trodAll_cons r3
  obtain ⟨v5, vs5, d5, ds5, p5, q5, rfl, rfl, rfl, h5, r5⟩ := trodAll_cons r4
  obtain ⟨v6, vs6, d6, ds6, p6, q6, rfl, rfl, rfl, h6, r6⟩ := trodAll_cons r5
  obtain ⟨rfl, rfl, rfl⟩ := trodAll_nil r6
  exact ⟨v0, v1, v2, v3, v4, v5, v6, d0, d1, d2, d3, d4, d5, d6, p0, p1, p2, p3, p4, p5, p6, by cases args; simp_all, rfl, h0, h1, h2, h3, h4, h5, h6⟩
end Go.Proofs.YtfconbblnmbnpafGreatDoor
namespace Go.Proofs.YtfconbblnmbnpafGreatDoor
open Go.RowKit

set_option maxRecDepth 1000000 in
set_option maxHeartbeats 8000000 in
theorem put_any (v : Value) (zs : List Int) (n : Int) (w : World) (hv : Ints w v zs) (hl : zs.length ≤ 1000) :
    Calls Tryz.prog 30 #[v, .int .i64 n] w fun e w' => ∃ v', e = .returned v' ∧ Ints w' v' (putGo n false zs) ∧ Below w.heap.size w w' := by
  obtain ⟨ao, cap, rfl, hat⟩ := ints_form hv
  clear hv
  obtain ⟨ii, hi, hz0, hz1, hz2⟩ := info_parts infoIntC
  go_enter Tryz.func30, Tryz.ntmps30
  go_wp2
  go_loopw [5, 6, 7] (fun o d i wr => ∃ (k : Nat) (pre : List Int) (done : Bool), k ≤ zs.length ∧ pre.length ≤ k + 1 ∧ i = .int .i64 k ∧ d = .bool done ∧ wr.ownsRow w.heap.size 3 1 o pre.length (pre.map (Value.int .i64)) ∧ Below w.heap.size w wr ∧
      pre ++ putGo n done (zs.drop k) = putGo n false zs ∧ (done = false → pre.length ≤ k)) (fun _ _ i _ => zs.length - (intOf i).toNat)
  case atStart => exact ⟨0, [], false, Nat.zero_le _, by simp, rfl, rfl, World.ownsRow_nil _ _ _ _, Below.refl _ _, by simp, by simp⟩
  case round =>
    obtain ⟨k, pre, done, hk, hpl, rfl, rfl, hown, hb, hinv, hdl⟩ := hrel
    have HI : Hid (pre ++ putGo n done (zs.drop k) = putGo n false zs) := hinv
    clear hinv
    have hsz := hb.size
    by_cases hkl : k < zs.length
    · obtain ⟨z, hz⟩ : ∃ z, zs[k]? = some z := ⟨zs[k], List.getElem?_eq_getElem hkl⟩
      have HZ : Hid (zs.drop k = z :: zs.drop (k + 1)) := by
        have := List.drop_eq_getElem_cons hkl
        rw [List.getElem?_eq_getElem hkl] at hz
        rw [Option.some.inj hz] at this
        exact this
      obtain ⟨a, rfl, hab, hca⟩ : ∃ a, ao = some a ∧ a.block < w.heap.size ∧ ∀ (i : Nat) z, zs[i]? = some z → w.cell? (a.add i) = some (.int .i64 z) := by
        rcases hat with h | h
        · rw [h] at hkl; simp at hkl
        · exact h
      have c9 := hca k z hz
      have c0 := (hb.cell (p := a.add k) (by rw [add_block]; exact hab)).trans c9
      clear hz hat hca
      cases done with
      | true =>
        have HQ : Hid ((pre ++ [z]) ++ putGo n true (zs.drop (k + 1)) = putGo n false zs) := by
          show _ = _
          have := HI.out
          rw [HZ.out, putGo_true] at this
          rw [putGo_true]
          simpa using this
        clear HI HZ hdl
        by_cases hzn : z = n
        · have hq : (z == n) = true := by simpa using hzn
          clear hzn
          go_wp2_with (at_builtin; refine wpList_append_own _ rfl _ _ 27 rfl w.heap.size 3 ii (.int .i64 0) 1 8 Tryz.underlying27 hi hz0 hz1 hz2 rfl (by decide) _ _ _ rfl (hown.alloc _) ⟨wr.heap.size, 0, none⟩ 1 1 [.int .i64 z] rfl rfl ?c1A ?c2A ?c3A ?c4A ?c5A ?_)
          case c1A =>
            intro j u hj
            match j, hj with
            | 0, hj => simp at hj; subst hj; simp [Addr.add]
          case c2A => intro u hu; simp at hu; subst hu; rfl
          case c3A => unfold maxLen; (try simp only [List.length_append, List.length_cons, List.length_nil]); omega
          case c4A => (try simp only [List.length_append, List.length_cons, List.length_nil]); omega
          case c5A => simp; omega
          intro v1 w1 hown' hgrow _
          have hbA : Below w.heap.size w w1 := (hb.alloc hsz _).grown hgrow (by simp; omega) (fun j hj => (hown.lt j hj).1)
          have RA : w1.ownsRow w.heap.size 3 1 v1 (pre ++ [z]).length ((pre ++ [z]).map (Value.int .i64)) := by simpa using hown'
          clear hown' hgrow hown
          go_wp2
          go_roundw
          case rel => exact ⟨k + 1, pre ++ [z], true, by omega, by simp; omega, by go_num, rfl, RA, hbA, HQ.out, by simp⟩
          case measure => simp [intOf]; omega
        · have hq : (z == n) = false := by simpa using hzn
          clear hzn
          go_wp2_with (at_builtin; refine wpList_append_own _ rfl _ _ 27 rfl w.heap.size 3 ii (.int .i64 0) 1 8 Tryz.underlying27 hi hz0 hz1 hz2 rfl (by decide) _ _ _ rfl (hown.alloc _) ⟨wr.heap.size, 0, none⟩ 1 1 [.int .i64 z] rfl rfl ?c1B ?c2B ?c3B ?c4B ?c5B ?_)
          case c1B =>
            intro j u hj
            match j, hj with
            | 0, hj => simp at hj; subst hj; simp [Addr.add]
          case c2B => intro u hu; simp at hu; subst hu; rfl
          case c3B => unfold maxLen; (try simp only [List.length_append, List.length_cons, List.length_nil]); omega
          case c4B => (try simp only [List.length_append, List.length_cons, List.length_nil]); omega
          case c5B => simp; omega
          intro v1 w1 hown' hgrow _
          have hbB : Below w.heap.size w w1 := (hb.alloc hsz _).grown hgrow (by simp; omega) (fun j hj => (hown.lt j hj).1)
          have RB : w1.ownsRow w.heap.size 3 1 v1 (pre ++ [z]).length ((pre ++ [z]).map (Value.int .i64)) := by simpa using hown'
          clear hown' hgrow hown
          go_wp2
          go_roundw
          case rel => exact ⟨k + 1, pre ++ [z], true, by omega, by simp; omega, by go_num, rfl, RB, hbB, HQ.out, by simp⟩
          case measure => simp [intOf]; omega
      | false =>
        have hpl2 := hdl rfl
        clear hdl
        by_cases hzn : z = n
        · have HQ : Hid ((pre ++ [z]) ++ putGo n true (zs.drop (k + 1)) = putGo n false zs) := by
            show _ = _
            have := HI.out
            rw [HZ.out, putGo_eq hzn] at this
            rw [putGo_true]
            simpa using this
          have hq : (z == n) = true := by simpa using hzn
          clear hzn HI HZ
          go_wp2_with (at_builtin; refine wpList_append_own _ rfl _ _ 27 rfl w.heap.size 3 ii (.int .i64 0) 1 8 Tryz.underlying27 hi hz0 hz1 hz2 rfl (by decide) _ _ _ rfl (hown.alloc _) ⟨wr.heap.size, 0, none⟩ 1 1 [.int .i64 z] rfl rfl ?c1C ?c2C ?c3C ?c4C ?c5C ?_)
          case c1C =>
            intro j u hj
            match j, hj with
            | 0, hj => simp at hj; subst hj; simp [Addr.add]
          case c2C => intro u hu; simp at hu; subst hu; rfl
          case c3C => unfold maxLen; (try simp only [List.length_append, List.length_cons, List.length_nil]); omega
          case c4C => (try simp only [List.length_append, List.length_cons, List.length_nil]); omega
          case c5C => simp; omega
          intro v1 w1 hown' hgrow _
          have hbC : Below w.heap.size w w1 := (hb.alloc hsz _).grown hgrow (by simp; omega) (fun j hj => (hown.lt j hj).1)
          have RC : w1.ownsRow w.heap.size 3 1 v1 (pre ++ [z]).length ((pre ++ [z]).map (Value.int .i64)) := by simpa using hown'
          clear hown' hgrow hown
          go_wp2
          go_roundw
          case rel => exact ⟨k + 1, pre ++ [z], true, by omega, by simp; omega, by go_num, rfl, RC, hbC, HQ.out, by simp⟩
          case measure => simp [intOf]; omega
        · have hq : (z == n) = false := by simpa using hzn
          by_cases hlt : n < z
          · have HQ : Hid ((pre ++ [n] ++ [z]) ++ putGo n true (zs.drop (k + 1)) = putGo n false zs) := by
              show _ = _
              have := HI.out
              rw [HZ.out, putGo_lt hlt] at this
              rw [putGo_true]
              simpa using this
            clear hzn HI HZ
            have hd : decide (z > n) = true := by simpa using hlt
            go_wp2_with (at_builtin; refine wpList_append_own _ rfl _ _ 27 rfl w.heap.size 3 ii (.int .i64 0) 1 8 Tryz.underlying27 hi hz0 hz1 hz2 rfl (by decide) _ _ _ rfl (hown.alloc _) ⟨wr.heap.size, 0, none⟩ 1 1 [.int .i64 n] rfl rfl ?c1D ?c2D ?c3D ?c4D ?c5D ?_)
            case c1D =>
              intro j u hj
              match j, hj with
              | 0, hj => simp at hj; subst hj; simp [Addr.add]
            case c2D => intro u hu; simp at hu; subst hu; rfl
            case c3D => unfold maxLen; (try simp only [List.length_append, List.length_cons, List.length_nil]); omega
            case c4D => (try simp only [List.length_append, List.length_cons, List.length_nil]); omega
            case c5D => simp; omega
            intro v1 w1 hown' hgrow _
            have hbD : Below w.heap.size w w1 := (hb.alloc hsz _).grown hgrow (by simp; omega) (fun j hj => (hown.lt j hj).1)
            have RD : w1.ownsRow w.heap.size 3 1 v1 (pre ++ [n]).length ((pre ++ [n]).map (Value.int .i64)) := by simpa using hown'
            clear hown' hgrow hown
            have hszD := hbD.size
            have c1 := (hbD.cell (p := a.add k) (by rw [add_block]; exact hab)).trans c9
            go_wp2_with (at_builtin; refine wpList_append_own _ rfl _ _ 27 rfl w.heap.size 3 ii (.int .i64 0) 1 8 Tryz.underlying27 hi hz0 hz1 hz2 rfl (by decide) _ _ _ rfl (RD.alloc _) ⟨w1.heap.size, 0, none⟩ 1 1 [.int .i64 z] rfl rfl ?c1E ?c2E ?c3E ?c4E ?c5E ?_)
            case c1E =>
              intro j u hj
              match j, hj with
              | 0, hj => simp at hj; subst hj; simp [Addr.add]
            case c2E => intro u hu; simp at hu; subst hu; rfl
            case c3E => unfold maxLen; (try simp only [List.length_append, List.length_cons, List.length_nil]); omega
            case c4E => (try simp only [List.length_append, List.length_cons, List.length_nil]); omega
            case c5E => simp; omega
            intro v2 w2 hown' hgrow _
            have hbE : Below w.heap.size w w2 := (hbD.alloc hszD _).grown hgrow (by simp; omega) (fun j hj => (RD.lt j hj).1)
            have RE : w2.ownsRow w.heap.size 3 1 v2 ((pre ++ [n]) ++ [z]).length (((pre ++ [n]) ++ [z]).map (Value.int .i64)) := by simpa using hown'
            clear hown' hgrow RD
            go_wp2
            go_roundw
            case rel => exact ⟨k + 1, pre ++ [n] ++ [z], true, by omega, by simp; omega, by go_num, rfl, RE, hbE, HQ.out, by simp⟩
            case measure => simp [intOf]; omega
          · have hd : decide (z > n) = false := by simpa using hlt
            have HQ : Hid ((pre ++ [z]) ++ putGo n false (zs.drop (k + 1)) = putGo n false zs) := by
              show _ = _
              have := HI.out
              rw [HZ.out, putGo_gt (by omega)] at this
              simpa using this
            have hle : z ≤ n := by omega
            clear hzn HI HZ hlt
            go_wp2_with (at_builtin; refine wpList_append_own _ rfl _ _ 27 rfl w.heap.size 3 ii (.int .i64 0) 1 8 Tryz.underlying27 hi hz0 hz1 hz2 rfl (by decide) _ _ _ rfl (hown.alloc _) ⟨wr.heap.size, 0, none⟩ 1 1 [.int .i64 z] rfl rfl ?c1F ?c2F ?c3F ?c4F ?c5F ?_)
            case c1F =>
              intro j u hj
              match j, hj with
              | 0, hj => simp at hj; subst hj; simp [Addr.add]
            case c2F => intro u hu; simp at hu; subst hu; rfl
            case c3F => unfold maxLen; (try simp only [List.length_append, List.length_cons, List.length_nil]); omega
            case c4F => (try simp only [List.length_append, List.length_cons, List.length_nil]); omega
            case c5F => simp; omega
            intro v1 w1 hown' hgrow _
            have hbF : Below w.heap.size w w1 := (hb.alloc hsz _).grown hgrow (by simp; omega) (fun j hj => (hown.lt j hj).1)
            have RF : w1.ownsRow w.heap.size 3 1 v1 (pre ++ [z]).length ((pre ++ [z]).map (Value.int .i64)) := by simpa using hown'
            clear hown' hgrow hown
            go_wp2
            go_roundw
            case rel => exact ⟨k + 1, pre ++ [z], false, by omega, by simp; omega, by go_num, rfl, RF, hbF, HQ.out, fun _ => by simp; omega⟩
            case measure => simp [intOf]; omega
    · have hke : k = zs.length := by omega
      subst hke
      cases done with
      | true =>
        have HP : Hid (pre = putGo n false zs) := by have := HI.out; rw [putGo_true, List.drop_length, List.append_nil] at this; exact this
        have hv := ints_of_own hown
        obtain ⟨g, n', cap', rfl⟩ := slice_form hown
        clear hown hdl
        go_wp2
        go_ret
        exact ⟨_, rfl, by rw [← HP.out]; exact hv, hb⟩
      | false =>
        have HP : Hid (pre ++ [n] = putGo n false zs) := by have := HI.out; rw [List.drop_length, putGo_nil] at this; exact this
        have hpl2 := hdl rfl
        clear hdl
        go_wp2_with (at_builtin; refine wpList_append_own _ rfl _ _ 27 rfl w.heap.size 3 ii (.int .i64 0) 1 8 Tryz.underlying27 hi hz0 hz1 hz2 rfl (by decide) _ _ _ rfl (hown.alloc _) ⟨wr.heap.size, 0, none⟩ 1 1 [.int .i64 n] rfl rfl ?c1B ?c2B ?c3B ?c4B ?c5B ?_)
        case c1B =>
          intro j u hj
          match j, hj with
          | 0, hj => simp at hj; subst hj; simp [Addr.add]
        case c2B => intro u hu; simp at hu; subst hu; rfl
        case c3B => unfold maxLen; omega
        case c4B => omega
        case c5B => simp; omega
        intro v' w1 hown' hgrow _
        have hb1 : Below w.heap.size w w1 := (hb.alloc hsz _).grown hgrow (by simp; omega) (fun j hj => (hown.lt j hj).1)
        have R : w1.ownsRow w.heap.size 3 1 v' (pre ++ [n]).length ((pre ++ [n]).map (Value.int .i64)) := by simpa using hown'
        clear hown' hgrow hown
        have hv := ints_of_own R
        obtain ⟨g, n', cap', rfl⟩ := slice_form R
        clear R
        go_wp2
        go_ret
        exact ⟨_, rfl, by rw [← HP.out]; exact hv, hb1⟩

set_option maxRecDepth 1000000 in
set_option maxHeartbeats 8000000 in
theorem ports_some (what : Int) (l : List O3) (b off cap : Nat) (w : World) (hlt : b < w.heap.size) (hlen : l.length ≤ 1000) (hw : ∀ o ∈ l, o.1 = what → 0 ≤ o.2.2 ∧ o.2.2 < 12)
    (hc : ∀ (i : Nat) o, l[i]? = some o → w.cell? ⟨b, off + i * 3, none⟩ = some (.int .i64 o.1) ∧ w.cell? ⟨b, off + i * 3 + 1, none⟩ = some (.int .i64 o.2.1) ∧ w.cell? ⟨b, off + i * 3 + 2, none⟩ = some (.int .i64 o.2.2)) :
    Calls Tryz.prog 17 #[.slice (some ⟨b, off, none⟩) l.length cap, .int .i64 what] w fun e w' => ∃ v', e = .returned v' ∧ Ints w' v' (wiresB what l) ∧ Below w.heap.size w w' := by
  go_enter Tryz.func17, Tryz.ntmps17
  go_wp2
  go_loopw [5, 6] (fun o i wr => ∃ k : Nat, k ≤ l.length ∧ i = .int .i64 k ∧ Ints wr o (wiresB what (l.take k)) ∧ Below w.heap.size w wr) (fun _ i _ => l.length - (intOf i).toNat)
  case atStart => exact ⟨0, Nat.zero_le _, rfl, Or.inl ⟨rfl, by simp [wires_nil]⟩, Below.refl _ _⟩
  case round =>
    obtain ⟨k, hk, rfl, hint, hb⟩ := hrel
    have hwl := wires_len what (l.take k)
    obtain ⟨Z, hZ⟩ : ∃ Z, Z = wiresB what (l.take k) := ⟨_, rfl⟩
    rw [← hZ] at hint hwl
    have HZ : Hid (Z = wiresB what (l.take k)) := hZ
    clear hZ
    by_cases hkl : k < l.length
    · obtain ⟨o, ho⟩ : ∃ o, l[k]? = some o := ⟨l[k], List.getElem?_eq_getElem hkl⟩
      have hom := hw o (List.mem_of_getElem? ho)
      have HS : Hid (wiresB what (l.take (k + 1)) = portStep what Z o) := by
        show _ = _
        rw [HZ.out, ← wires_snoc what (l.take k) o hom]
        have := List.take_succ_eq_append_getElem hkl
        rw [List.getElem?_eq_getElem hkl] at ho
        rw [Option.some.inj ho] at this
        rw [this]
      obtain ⟨c0, c1, c2⟩ := hc k o ho
      clear ho hom
      have d0 : wr.cell? ⟨b, off + k * 3, none⟩ = some (.int .i64 o.1) := (hb.cell (p := ⟨b, _, none⟩) hlt).trans c0
      have d2 : wr.cell? ⟨b, off + k * 3 + 2, none⟩ = some (.int .i64 o.2.2) := (hb.cell (p := ⟨b, _, none⟩) hlt).trans c2
      clear c0 c1 c2
      by_cases hq : o.1 = what
      · have HP : Hid (wiresB what (l.take (k + 1)) = putGo o.2.2 false Z) := by
          show _ = _
          rw [HS.out, portStep, if_pos hq]
        have hqb : (o.1 == what) = true := by simpa using hq
        have hput := put_any _ Z o.2.2 wr hint (by omega)
        clear hq HS hint
        go_wp2_with (go_at_call 30; refine hput.mono ?_; rintro e w1 ⟨v1, rfl, hi1, b1⟩; clear hput)
        go_roundw
        case rel => exact ⟨k + 1, by omega, by go_num, by rw [HP.out]; exact hi1, hb.trans (b1.mono hb.size)⟩
        case measure => simp [intOf]; omega
      · have HP : Hid (wiresB what (l.take (k + 1)) = Z) := by
          show _ = _
          rw [HS.out, portStep, if_neg hq]
        have hqb : (o.1 == what) = false := by simpa using hq
        clear hq HS
        go_wp2
        go_roundw
        case rel => exact ⟨k + 1, by omega, by go_num, by rw [HP.out]; exact hint, hb⟩
        case measure => simp [intOf]; omega
    · have hke : k = l.length := by omega
      subst hke
      have HP : Hid (Z = wiresB what l) := by have := HZ.out; rwa [List.take_length] at this
      obtain ⟨ao, cc, rfl, _⟩ := ints_form hint
      go_wp2
      go_ret
      exact ⟨_, rfl, by rw [← HP.out]; exact hint, hb⟩
theorem ports_any (what : Int) (v : Value) (l : List O3) (w : World) (h : Ops w v l) (hk0 : (chk l).2 = 0) (hwh : what = 8 ∨ what = 9) :
    Calls Tryz.prog 17 #[v, .int .i64 what] w fun e w' => ∃ v', e = .returned v' ∧ Ints w' v' (wiresB what l) ∧ Below w.heap.size w w' := by
  rcases h with ⟨rfl, ao, cap, rfl⟩ | ⟨b, off, cap, rfl, hlt, hc⟩
  · exact absurd hk0 (by decide)
  · obtain ⟨hz0, hz1, hz2⟩ := chk_zero hk0
    refine ports_some what l b off cap w hlt (by omega) (fun o ho e => ?_) hc
    have := ok3_range (hz2 o ho)
    have hB : bB o.1 l.length = 12 := by rw [e]; rcases hwh with rfl | rfl <;> simp [bB]
    omega
end Go.Proofs.YtfconbblnmbnpafGreatDoor
namespace Go.Proofs.YtfconbblnmbnpafGreatDoor
open Go.RowKit

set_option maxRecDepth 100000 in
set_option maxHeartbeats 1000000 in
theorem clash_any (o s : S3) (sb : Nat) (w : World) (k0 : w.cell? ⟨sb, 0, none⟩ = some (.int .i64 s.1)) (k1 : w.cell? ⟨sb, 1, none⟩ = some (.int .i64 s.2.1)) :
    Calls Tryz.prog 62 #[.agg #[.int .i64 o.1, .int .i64 o.2.1, .int .i64 o.2.2], .pointer (some ⟨sb, 0, none⟩)] w fun e w' => e = .returned (.bool (clashB s o)) ∧ Below w.heap.size w w' := by
  have hlt := ltc k0
  have hn : sb ≠ w.heap.size := by omega
  obtain ⟨a, b, r⟩ := o
  obtain ⟨c, d, q⟩ := s
  simp only at k0 k1 ⊢
  by_cases h1 : a < d
  · by_cases h2 : c < b
    · have HF : Hid (clashB (c, d, q) (a, b, r) = true) := by show _ = _; simp [clashB, h1, h2]
      go_enter Tryz.func62, Tryz.ntmps62
      go_wp2
      go_ret
      exact ⟨retB HF.out.symm, (Below.refl _ _).alloc (Nat.le_refl _) _⟩
    · have h2' : decide (c < b) = false := by simpa using h2
      have HF : Hid (clashB (c, d, q) (a, b, r) = false) := by show _ = _; simp [clashB, h2]
      go_enter Tryz.func62, Tryz.ntmps62
      go_wp2
      go_ret
      exact ⟨retB HF.out.symm, (Below.refl _ _).alloc (Nat.le_refl _) _⟩
  · have h1' : decide (a < d) = false := by simpa using h1
    have HF : Hid (clashB (c, d, q) (a, b, r) = false) := by show _ = _; simp [clashB, h1]
    go_enter Tryz.func62, Tryz.ntmps62
    go_wp2
    go_ret
    exact ⟨retB HF.out.symm, (Below.refl _ _).alloc (Nat.le_refl _) _⟩

theorem fc_hit {α : Type} {p : α → Bool} {l : List α} {k : Nat} {o : α} (h : l[k]? = some o) (hp : p o = true) : l.any p = true := by
  rw [List.any_eq_true]
  exact ⟨o, List.mem_of_getElem? h, hp⟩
theorem any_miss {α : Type} {p : α → Bool} {l : List α} (h : ∀ (i : Nat) x, i < l.length → l[i]? = some x → p x = false) : l.any p = false := by
  rw [List.any_eq_false]
  intro x hx
  obtain ⟨i, hi, rfl⟩ := List.getElem_of_mem hx
  have := h i l[i] hi (List.getElem?_eq_getElem hi)
  simp [this]

set_option maxRecDepth 100000 in
set_option maxHeartbeats 2000000 in
theorem idxClash (l : List S3) (s : S3) (b off cap sb : Nat) (w : World) (k0 : w.cell? ⟨sb, 0, none⟩ = some (.int .i64 s.1)) (k1 : w.cell? ⟨sb, 1, none⟩ = some (.int .i64 s.2.1)) (hlen : l.length ≤ 12) (hlt : b < w.heap.size) (hc : SpC w b off l) :
    Calls Tryz.prog 75 #[.slice (some ⟨b, off, none⟩) l.length cap, .func (.func 62) #[] #[.pointer (some ⟨sb, 0, none⟩)]] w fun e w' =>
      (∃ r : Int, e = .returned (.int .i64 r) ∧ decide (0 ≤ r) = l.any (clashB s)) ∧ Below w.heap.size w w' := by
  have hlt1 := ltc k0
  go_enter Tryz.func75, Tryz.ntmps75
  go_wp2
  go_loopw [8] (fun i wr => ∃ k : Nat, k ≤ l.length ∧ i = .int .i64 k ∧ (∀ (j : Nat) x, j < k → l[j]? = some x → clashB s x = false) ∧ Below w.heap.size w wr) (fun i _ => l.length - (intOf i).toNat)
  case atStart => exact ⟨0, Nat.zero_le _, rfl, fun j x hj => by omega, Below.refl _ _⟩
  case round =>
    obtain ⟨k, hk, rfl, hall, hb⟩ := hrel
    have e0 : wr.cell? ⟨sb, 0, none⟩ = some (.int .i64 s.1) := (hb.cell (p := ⟨sb, 0, none⟩) hlt1).trans k0
    have e1 : wr.cell? ⟨sb, 1, none⟩ = some (.int .i64 s.2.1) := (hb.cell (p := ⟨sb, 1, none⟩) hlt1).trans k1
    have Hall : Hid (∀ (j : Nat) x, j < k → l[j]? = some x → clashB s x = false) := hall
    clear hall
    by_cases hkl : k < l.length
    · obtain ⟨o, ho⟩ : ∃ o, l[k]? = some o := ⟨l[k], List.getElem?_eq_getElem hkl⟩
      have HO : Hid (l[k]? = some o) := ho
      obtain ⟨c0, c1, c2⟩ := hc.below hb hlt k o ho
      clear ho
      have hon := clash_any o s sb wr e0 e1
      clear e0 e1
      cases hok : clashB s o with
      | false =>
        have HN : Hid (clashB s o = false) := hok
        rw [hok] at hon
        clear hok
        go_wp2_with (go_at_call 62; refine hon.mono ?_; rintro e w1 ⟨rfl, b1⟩; clear hon)
        go_roundw
        case rel =>
          refine ⟨k + 1, by omega, by go_num, fun j x hj hx => ?_, hb.trans (b1.mono hb.size)⟩
          by_cases hjk : j < k
          · exact Hall.out j x hjk hx
          · obtain rfl : j = k := by omega
            rw [HO.out] at hx
            obtain rfl := Option.some.inj hx
            exact HN.out
        case measure => simp [intOf]; omega
      | true =>
        have HF : Hid (l.any (clashB s) = true) := fc_hit HO.out hok
        rw [hok] at hon
        clear hok
        go_wp2_with (go_at_call 62; refine hon.mono ?_; rintro e w1 ⟨rfl, b1⟩; clear hon)
        go_ret
        exact ⟨⟨_, rfl, by rw [HF.out]; simp⟩, hb.trans (b1.mono hb.size)⟩
    · have HF : Hid (l.any (clashB s) = false) := any_miss (fun i x hi hx => Hall.out i x (by omega) hx)
      clear e0 e1
      go_wp2
      go_ret
      exact ⟨⟨_, rfl, by rw [HF.out]; simp⟩, hb⟩

set_option maxRecDepth 100000 in
set_option maxHeartbeats 2000000 in
theorem conClash (l : List S3) (s : S3) (b off cap sb : Nat) (w : World) (k0 : w.cell? ⟨sb, 0, none⟩ = some (.int .i64 s.1)) (k1 : w.cell? ⟨sb, 1, none⟩ = some (.int .i64 s.2.1)) (hlen : l.length ≤ 12) (hlt : b < w.heap.size) (hc : SpC w b off l) :
    Calls Tryz.prog 63 #[.slice (some ⟨b, off, none⟩) l.length cap, .func (.func 62) #[] #[.pointer (some ⟨sb, 0, none⟩)]] w fun e w' =>
      e = .returned (.bool (l.any (clashB s))) ∧ Below w.heap.size w w' := by
  have h := idxClash l s b off cap sb w k0 k1 hlen hlt hc
  clear k0 k1 hc
  go_enter Tryz.func63, Tryz.ntmps63
  go_wp2_with (go_at_call 75; refine h.mono ?_; rintro e w1 ⟨⟨r, rfl, hr⟩, bb⟩; clear h; have HR : Hid (decide (0 ≤ r) = l.any (clashB s)) := hr; clear hr)
  go_ret
  exact ⟨retB HR.out, bb⟩

set_option maxRecDepth 100000 in
set_option maxHeartbeats 1000000 in
theorem fcheck_ticks (n : Int) (v : Value) (w : World) (h : n < 1 ∨ 40 < n) :
    Calls Tryz.prog 43 #[.int .i64 n, v] w fun e w' => e = .returned (.tuple #[.int .i64 0, fErr 1]) ∧ Below w.heap.size w w' := by
  by_cases h1 : n < 1
  · go_enter Tryz.func43, Tryz.ntmps43
    go_wp2
    go_ret2
    exact ⟨rfl, Below.refl _ _⟩
  · have h1' : decide (n < 1) = false := by simpa using h1
    have h2 : 40 < n := by omega
    go_enter Tryz.func43, Tryz.ntmps43
    go_wp2
    go_ret2
    exact ⟨rfl, Below.refl _ _⟩
set_option maxRecDepth 100000 in
set_option maxHeartbeats 1000000 in
theorem fcheck_long (n : Int) (ao : Option Addr) (m cap : Nat) (w : World) (h1 : ¬ n < 1) (h2 : ¬ 40 < n) (hm : 12 < m) :
    Calls Tryz.prog 43 #[.int .i64 n, .slice ao m cap] w fun e w' => e = .returned (.tuple #[.int .i64 0, fErr 4]) ∧ Below w.heap.size w w' := by
  have h1' : decide (n < 1) = false := by simpa using h1
  have h2' : decide (40 < n) = false := by simpa using h2
  go_enter Tryz.func43, Tryz.ntmps43
  go_wp2
  go_ret2
  exact ⟨rfl, Below.refl _ _⟩
set_option maxRecDepth 100000 in
set_option maxHeartbeats 1000000 in
theorem fcheck_nil (n : Int) (ao : Option Addr) (cap : Nat) (w : World) (h1 : ¬ n < 1) (h2 : ¬ 40 < n) :
    Calls Tryz.prog 43 #[.int .i64 n, .slice ao 0 cap] w fun e w' => e = .returned (.tuple #[.int .i64 0, fErr 0]) ∧ Below w.heap.size w w' := by
  have h1' : decide (n < 1) = false := by simpa using h1
  have h2' : decide (40 < n) = false := by simpa using h2
  go_enter Tryz.func43, Tryz.ntmps43
  go_wp2
  refine wp_loop_rounds 1 ?_
  rw [rounds_succ]
  go_wp2
  go_ret2
  exact ⟨rfl, Below.refl _ _⟩

theorem take_len {α : Type} {l : List α} {k : Nat} (h : k < l.length) : (l.take k).length = k := by rw [List.length_take]; omega

set_option maxRecDepth 100000 in
set_option maxHeartbeats 4000000 in
theorem fcheck_mid (n : Int) (l : List S3) (b off cap : Nat) (w : World) (h1 : ¬ n < 1) (h2 : ¬ 40 < n) (hl : ¬ 12 < l.length) (hcap : l.length ≤ cap) (hlt : b < w.heap.size) (hc : SpC w b off l) :
    Calls Tryz.prog 43 #[.int .i64 n, .slice (some ⟨b, off, none⟩) l.length cap] w fun e w' => e = .returned (.tuple #[.int .i64 (scan (badAt n l) l.length 0).1, fErr (scan (badAt n l) l.length 0).2]) ∧ Below w.heap.size w w' := by
  have h1' : decide (n < 1) = false := by simpa using h1
  have h2' : decide (40 < n) = false := by simpa using h2
  have h3' : decide (12 < l.length) = false := by simpa using hl
  go_enter Tryz.func43, Tryz.ntmps43
  go_wp2
  go_loopw [22] (fun i wr => ∃ k : Nat, k ≤ l.length ∧ i = .int .i64 k ∧ Hid (scan (badAt n l) l.length 0 = scan (badAt n l) (l.length - k) k) ∧ Below w.heap.size w wr) (fun i _ => l.length - (intOf i).toNat)
  case atStart => exact ⟨0, Nat.zero_le _, rfl, rfl, Below.refl _ _⟩
  case round =>
    obtain ⟨k, hk, rfl, HS, hb⟩ := hrel
    by_cases hkl : k < l.length
    · have hkc : k ≤ cap := by omega
      obtain ⟨o, ho⟩ : ∃ o, l[k]? = some o := ⟨l[k], List.getElem?_eq_getElem hkl⟩
      have HO : Hid (l[k]? = some o) := ho
      obtain ⟨c0, c1, c2⟩ := hc.below hb hlt k o ho
      clear ho
      have bA : Below wr.heap.size wr (wr.alloc (.cells #[.int .i64 o.1, .int .i64 o.2.1, .int .i64 o.2.2] 61)) := (Below.refl _ _).alloc (Nat.le_refl _) _
      have hbA := hb.trans (bA.mono hb.size)
      have hfit := ffits_any o n (wr.alloc (.cells #[.int .i64 o.1, .int .i64 o.2.1, .int .i64 o.2.2] 61))
      cases hok : spOk n o with
      | false =>
        have HF : Hid (scan (badAt n l) l.length 0 = ((k : Int), 1)) := by
          have e := badOf_range (l := l.take k) hok
          show _ = _
          rw [scan_hit hkl HS.out (by rw [badAt_some HO.out, e]; decide), badAt_some HO.out, e]
        rw [hok] at hfit
        clear hok HS
        go_wp2_with (go_at_call 61; refine hfit.mono ?_; rintro e w1 ⟨rfl, b1⟩; clear hfit)
        go_ret2
        rw [HF.out]
        exact ⟨rfl, hbA.trans (b1.mono hbA.size)⟩
      | true =>
        have hcl : ∀ W, Below (wr.heap.size + 1) (wr.alloc (.cells #[.int .i64 o.1, .int .i64 o.2.1, .int .i64 o.2.2] 61)) W → Calls Tryz.prog 63 #[.slice (some ⟨b, off, none⟩) k cap, .func (.func 62) #[] #[.pointer (some ⟨wr.heap.size, 0, none⟩)]] W fun e w' =>
            e = .returned (.bool ((l.take k).any (clashB o))) ∧ Below W.heap.size W w' := fun W hW => by
          have hlt' : b < wr.heap.size := Nat.lt_of_lt_of_le hlt hb.size
          have h := conClash (l.take k) o b off cap wr.heap.size W ((hW.cell (p := ⟨wr.heap.size, 0, none⟩) (by simp)).trans (by simp)) ((hW.cell (p := ⟨wr.heap.size, 1, none⟩) (by simp)).trans (by simp)) (by rw [List.length_take]; omega) (Nat.lt_of_lt_of_le hlt' (by have := hW.size; simp at this; omega)) (((((hc.below hb hlt)).below bA hlt').take k).below hW (by omega))
          rw [take_len hkl] at h
          exact h
        have HC : Hid (∀ W, Below (wr.heap.size + 1) (wr.alloc (.cells #[.int .i64 o.1, .int .i64 o.2.1, .int .i64 o.2.2] 61)) W → Calls Tryz.prog 63 #[.slice (some ⟨b, off, none⟩) k cap, .func (.func 62) #[] #[.pointer (some ⟨wr.heap.size, 0, none⟩)]] W fun e w' =>
            e = .returned (.bool ((l.take k).any (clashB o))) ∧ Below W.heap.size W w') := hcl
        have HK : Hid (spOk n o = true) := hok
        rw [hok] at hfit
        clear hok hcl
        cases han : (l.take k).any (clashB o) with
        | true =>
          have HF : Hid (scan (badAt n l) l.length 0 = ((k : Int), 7)) := by
            have e := badOf_clash HK.out han
            show _ = _
            rw [scan_hit hkl HS.out (by rw [badAt_some HO.out, e]; decide), badAt_some HO.out, e]
          rw [han] at HC
          clear han HS
          go_wp2_with (first | (go_at_call 61; refine hfit.mono ?_; rintro e w1 ⟨rfl, b1⟩; clear hfit; have h2 := HC.out w1 (by simpa using b1)) | (go_at_call 63; refine h2.mono ?_; rintro e w2 ⟨rfl, b2⟩; clear h2))
          go_ret2
          rw [HF.out]
          exact ⟨rfl, (hbA.trans (b1.mono hbA.size)).trans (b2.mono (hbA.trans (b1.mono hbA.size)).size)⟩
        | false =>
          have HF : Hid (scan (badAt n l) l.length 0 = scan (badAt n l) (l.length - (k + 1)) (k + 1)) := by
            show _ = _
            exact scan_next hkl HS.out (by rw [badAt_some HO.out]; exact badOf_none HK.out han)
          rw [han] at HC
          clear han HS
          go_wp2_with (first | (go_at_call 61; refine hfit.mono ?_; rintro e w1 ⟨rfl, b1⟩; clear hfit; have h2 := HC.out w1 (by simpa using b1)) | (go_at_call 63; refine h2.mono ?_; rintro e w2 ⟨rfl, b2⟩; clear h2))
          go_roundw
          case rel => exact ⟨k + 1, by omega, by go_num, HF.out, (hbA.trans (b1.mono hbA.size)).trans (b2.mono (hbA.trans (b1.mono hbA.size)).size)⟩
          case measure => simp [intOf]; omega
    · obtain rfl : k = l.length := by omega
      have HF : Hid (scan (badAt n l) l.length 0 = (0, 0)) := by
        show _ = _
        exact scan_end HS.out
      clear HS
      go_wp2
      go_ret2
      rw [HF.out]
      exact ⟨rfl, hb⟩
theorem fcheck_any (n : Int) (l : List S3) (v : Value) (w : World) (hl : Sps w v l) :
    Calls Tryz.prog 43 #[.int .i64 n, v] w fun e w' => e = .returned (.tuple #[.int .i64 (fchk n l).1, fErr (fchk n l).2]) ∧ Below w.heap.size w w' := by
  by_cases h1 : n < 1 ∨ 40 < n
  · rw [fchk_lo h1]
    exact fcheck_ticks n v w h1
  rcases hl with ⟨rfl, ao, cap, rfl⟩ | ⟨b, off, cap, rfl, hcap, hlt, hc⟩
  · rw [fchk_mid h1 (by simp)]
    exact fcheck_nil n ao cap w (by omega) (by omega)
  · by_cases h2 : 12 < l.length
    · rw [fchk_long h1 h2]
      exact fcheck_long n _ _ cap w (by omega) (by omega) h2
    · rw [fchk_mid h1 h2]
      exact fcheck_mid n l b off cap w (by omega) (by omega) h2 hcap hlt hc
end Go.Proofs.YtfconbblnmbnpafGreatDoor
namespace Go.Proofs.YtfconbblnmbnpafGreatDoor
open Go.RowKit

/-- Who has a tick; the fault. -/
def whoR (n : Int) (l : List S3) (t : Int) : Int × Int := if (fchk n l).2 = 0 then (if t < 0 then (0, 1) else (hold l (t % n), 0)) else (0, (fchk n l).2)

set_option maxRecDepth 100000 in
set_option maxHeartbeats 4000000 in
theorem who_bad (n : Int) (v : Value) (t : Int) (k e : Int) (w : World) (he : e ≠ 0)
    (hk : Calls Tryz.prog 43 #[.int .i64 n, v] w fun ev w' => ev = .returned (.tuple #[.int .i64 k, fErr e]) ∧ Below w.heap.size w w') :
    Calls Tryz.prog 40 #[.int .i64 n, v, .int .i64 t] w fun ev w' => ev = .returned (.tuple #[.int .i64 0, fErr e]) ∧ Below w.heap.size w w' := by
  rw [fErr_not he] at hk ⊢
  go_enter Tryz.func40, Tryz.ntmps40
  go_wp2_with (go_at_call 43; refine hk.mono ?_; rintro ev w1 ⟨rfl, b1⟩; clear hk)
  go_ret2
  exact ⟨rfl, b1⟩
set_option maxRecDepth 100000 in
set_option maxHeartbeats 4000000 in
theorem who_neg (n : Int) (v : Value) (t : Int) (k : Int) (w : World) (ht : t < 0)
    (hk : Calls Tryz.prog 43 #[.int .i64 n, v] w fun ev w' => ev = .returned (.tuple #[.int .i64 k, .nilIface]) ∧ Below w.heap.size w w') :
    Calls Tryz.prog 40 #[.int .i64 n, v, .int .i64 t] w fun ev w' => ev = .returned (.tuple #[.int .i64 0, fErr 1]) ∧ Below w.heap.size w w' := by
  go_enter Tryz.func40, Tryz.ntmps40
  go_wp2_with (go_at_call 43; refine hk.mono ?_; rintro ev w1 ⟨rfl, b1⟩; clear hk)
  go_ret2
  exact ⟨rfl, b1⟩
set_option maxRecDepth 100000 in
set_option maxHeartbeats 4000000 in
theorem who_good (n : Int) (l : List S3) (v : Value) (t : Int) (k : Int) (w : World) (hl : Sps w v l) (hlen : l.length ≤ 12) (hn0 : 1 ≤ n) (hn1 : n ≤ 40) (ht : 0 ≤ t)
    (hk : Calls Tryz.prog 43 #[.int .i64 n, v] w fun ev w' => ev = .returned (.tuple #[.int .i64 k, .nilIface]) ∧ Below w.heap.size w w') :
    Calls Tryz.prog 40 #[.int .i64 n, v, .int .i64 t] w fun ev w' => ev = .returned (.tuple #[.int .i64 (hold l (t % n)), fErr 0]) ∧ Below w.heap.size w w' := by
  have ht' : decide (t < 0) = false := by simp; omega
  have hn' : n ≠ 0 := by omega
  have hh : ∀ W, Below w.heap.size w W → Calls Tryz.prog 53 #[v, .int .i64 (t % n)] W fun e w' => e = .returned (.int .i64 (hold l (t % n))) ∧ Below W.heap.size W w' := fun W hb => by
    exact holder_any l v (t % n) W (hl.all hb) hlen
  have HH : Hid (∀ W, Below w.heap.size w W → Calls Tryz.prog 53 #[v, .int .i64 (t % n)] W fun e w' => e = .returned (.int .i64 (hold l (t % n))) ∧ Below W.heap.size W w') := hh
  clear hh hl
  go_enter Tryz.func40, Tryz.ntmps40
  go_wp2_with (first | (go_at_call 43; refine hk.mono ?_; rintro ev w1 ⟨rfl, b1⟩; clear hk; have h2 := HH.out w1 b1; clear HH) | (go_at_call 53; refine h2.mono ?_; rintro ev w2 ⟨rfl, b2⟩; clear h2))
  go_ret2
  exact ⟨rfl, b1.trans (b2.mono b1.size)⟩
theorem who_any (n : Int) (l : List S3) (v : Value) (t : Int) (w : World) (hl : Sps w v l) :
    Calls Tryz.prog 40 #[.int .i64 n, v, .int .i64 t] w fun ev w' => ev = .returned (.tuple #[.int .i64 (whoR n l t).1, fErr (whoR n l t).2]) ∧ Below w.heap.size w w' := by
  have hk := fcheck_any n l v w hl
  unfold whoR
  by_cases h : (fchk n l).2 = 0
  · obtain ⟨h1, h2, h3, _, _⟩ := fchk_zero h
    rw [h] at hk
    rw [if_pos h]
    by_cases ht : t < 0
    · rw [if_pos ht]
      exact who_neg n v t _ w ht hk
    · rw [if_neg ht]
      exact who_good n l v t _ w hl h3 h1 h2 (by omega) hk
  · rw [if_neg h]
    exact who_bad n v t _ _ w h hk
end Go.Proofs.YtfconbblnmbnpafGreatDoor
namespace Go.Proofs.YtfconbblnmbnpafGreatDoor
open Go.RowKit

set_option maxRecDepth 100000 in
set_option maxHeartbeats 1000000 in
theorem on_any (o : O3) (wb ib : Nat) (what : Int) (i : Nat) (w : World) (h1 : w.cell? ⟨wb, 0, none⟩ = some (.int .i64 what)) (h2 : w.cell? ⟨ib, 0, none⟩ = some (.int .i64 i)) :
    Calls Tryz.prog 95 #[.agg #[.int .i64 o.1, .int .i64 o.2.1, .int .i64 o.2.2], .pointer (some ⟨wb, 0, none⟩), .pointer (some ⟨ib, 0, none⟩)] w fun e w' => e = .returned (.bool (onW what i o)) ∧ Below w.heap.size w w' := by
  have hlt1 := lt_of_cell h1
  have hlt2 := lt_of_cell h2
  have hn1 : wb ≠ w.heap.size := by omega
  have hn2 : ib ≠ w.heap.size := by omega
  by_cases hq : o.1 = what
  · have hqb : (o.1 == what) = true := by simpa using hq
    by_cases hr : o.2.2 = (i : Int)
    · have hrb : (o.2.2 == (i : Int)) = true := by simpa using hr
      have HR : Hid (onW what i o = true) := by show _ = _; simp [onW, hq, hr]
      clear hq hr
      go_enter Tryz.func95, Tryz.ntmps95
      go_wp2
      go_ret
      exact ⟨ret_bool HR.out.symm, (Below.refl _ _).alloc (Nat.le_refl _) _⟩
    · have hrb : (o.2.2 == (i : Int)) = false := by simpa using hr
      have HR : Hid (onW what i o = false) := by show _ = _; simp [onW, hr]
      clear hq hr
      go_enter Tryz.func95, Tryz.ntmps95
      go_wp2
      go_ret
      exact ⟨ret_bool HR.out.symm, (Below.refl _ _).alloc (Nat.le_refl _) _⟩
  · have hqb : (o.1 == what) = false := by simpa using hq
    have HR : Hid (onW what i o = false) := by show _ = _; simp [onW, hq]
    clear hq
    go_enter Tryz.func95, Tryz.ntmps95
    go_wp2
    go_ret
    exact ⟨ret_bool HR.out.symm, (Below.refl _ _).alloc (Nat.le_refl _) _⟩

/-- The place of the first op on that wire; -1, if none. -/
def widx (what : Int) (i : Nat) (l : List O3) : Int := match l.findIdx? (onW what i) with | some k => k | none => -1
theorem widx_some {what : Int} {i : Nat} {l : List O3} {k : Nat} (h : l.findIdx? (onW what i) = some k) : widx what i l = k := by unfold widx; rw [h]
theorem widx_none {what : Int} {i : Nat} {l : List O3} (h : l.findIdx? (onW what i) = none) : widx what i l = -1 := by unfold widx; rw [h]
theorem widx_any (what : Int) (i : Nat) (l : List O3) : decide (widx what i l ≥ 0) = l.any (onW what i) := by
  cases h : l.findIdx? (onW what i) with
  | none =>
    rw [widx_none h]
    rw [List.findIdx?_eq_none_iff] at h
    symm
    simpa using h
  | some k =>
    rw [widx_some h]
    have : (l.findIdx? (onW what i)).isSome = true := by rw [h]; rfl
    rw [List.findIdx?_isSome] at this
    rw [this]
    simp

set_option maxRecDepth 100000 in
set_option maxHeartbeats 2000000 in
theorem indexOn_some (what : Int) (wi : Nat) (l : List O3) (b off cap wb ib : Nat) (w : World) (hw1 : w.cell? ⟨wb, 0, none⟩ = some (.int .i64 what)) (hw2 : w.cell? ⟨ib, 0, none⟩ = some (.int .i64 wi)) (hlen : l.length ≤ 20) (hlt : b < w.heap.size)
    (hc : ∀ (i : Nat) o, l[i]? = some o → w.cell? ⟨b, off + i * 3, none⟩ = some (.int .i64 o.1) ∧ w.cell? ⟨b, off + i * 3 + 1, none⟩ = some (.int .i64 o.2.1) ∧ w.cell? ⟨b, off + i * 3 + 2, none⟩ = some (.int .i64 o.2.2)) :
    Calls Tryz.prog 87 #[.slice (some ⟨b, off, none⟩) l.length cap, .func (.func 95) #[] #[.pointer (some ⟨wb, 0, none⟩), .pointer (some ⟨ib, 0, none⟩)]] w fun e w' =>
      e = .returned (.int .i64 (widx what wi l)) ∧ Below w.heap.size w w' := by
  have hl1 := lt_of_cell hw1
  have hl2 := lt_of_cell hw2
  go_enter Tryz.func87, Tryz.ntmps87
  go_wp2
  go_loopw [8] (fun i wr => ∃ k : Nat, k ≤ l.length ∧ i = .int .i64 k ∧ (∀ (j : Nat) x, j < k → l[j]? = some x → onW what wi x = false) ∧ Below w.heap.size w wr) (fun i _ => l.length - (intOf i).toNat)
  case atStart => exact ⟨0, Nat.zero_le _, rfl, fun j x hj => by omega, Below.refl _ _⟩
  case round =>
    obtain ⟨k, hk, rfl, hall, hb⟩ := hrel
    have e1 : wr.cell? ⟨wb, 0, none⟩ = some (.int .i64 what) := (hb.cell (p := ⟨wb, 0, none⟩) hl1).trans hw1
    have e2 : wr.cell? ⟨ib, 0, none⟩ = some (.int .i64 wi) := (hb.cell (p := ⟨ib, 0, none⟩) hl2).trans hw2
    have Hall : Hid (∀ (j : Nat) x, j < k → l[j]? = some x → onW what wi x = false) := hall
    clear hall
    by_cases hkl : k < l.length
    · obtain ⟨o, ho⟩ : ∃ o, l[k]? = some o := ⟨l[k], List.getElem?_eq_getElem hkl⟩
      have HO : Hid (l[k]? = some o) := ho
      obtain ⟨c0, c1, c2⟩ := hc k o ho
      clear ho
      have d0 : wr.cell? ⟨b, off + k * 3, none⟩ = some (.int .i64 o.1) := (hb.cell (p := ⟨b, _, none⟩) hlt).trans c0
      have d1 : wr.cell? ⟨b, off + k * 3 + 1, none⟩ = some (.int .i64 o.2.1) := (hb.cell (p := ⟨b, _, none⟩) hlt).trans c1
      have d2 : wr.cell? ⟨b, off + k * 3 + 2, none⟩ = some (.int .i64 o.2.2) := (hb.cell (p := ⟨b, _, none⟩) hlt).trans c2
      clear c0 c1 c2
      have hon := on_any o wb ib what wi wr e1 e2
      clear e1 e2
      cases hok : onW what wi o with
      | false =>
        have HN : Hid (onW what wi o = false) := hok
        rw [hok] at hon
        clear hok
        go_wp2_with (go_at_call 95; refine hon.mono ?_; rintro e w1 ⟨rfl, b1⟩; clear hon)
        go_roundw
        case rel =>
          refine ⟨k + 1, by omega, by go_num, fun j x hj hx => ?_, hb.trans (b1.mono hb.size)⟩
          by_cases hjk : j < k
          · exact Hall.out j x hjk hx
          · obtain rfl : j = k := by omega
            rw [HO.out] at hx
            obtain rfl := Option.some.inj hx
            exact HN.out
        case measure => simp [intOf]; omega
      | true =>
        have HF : Hid (l.findIdx? (onW what wi) = some k) := findIdx_hit Hall.out HO.out hok
        rw [hok] at hon
        clear hok
        go_wp2_with (go_at_call 95; refine hon.mono ?_; rintro e w1 ⟨rfl, b1⟩; clear hon)
        go_ret
        exact ⟨ret_int (widx_some HF.out).symm, hb.trans (b1.mono hb.size)⟩
    · have HF : Hid (l.findIdx? (onW what wi) = none) := findIdx_miss (fun i x hi hx => Hall.out i x (by omega) hx)
      clear e1 e2
      go_wp2
      go_ret
      exact ⟨ret_int (widx_none HF.out).symm, hb⟩

set_option maxRecDepth 100000 in
set_option maxHeartbeats 2000000 in
theorem contains_some (what : Int) (wi : Nat) (l : List O3) (b off cap wb ib : Nat) (w : World) (hw1 : w.cell? ⟨wb, 0, none⟩ = some (.int .i64 what)) (hw2 : w.cell? ⟨ib, 0, none⟩ = some (.int .i64 wi)) (hlen : l.length ≤ 20) (hlt : b < w.heap.size)
    (hc : ∀ (i : Nat) o, l[i]? = some o → w.cell? ⟨b, off + i * 3, none⟩ = some (.int .i64 o.1) ∧ w.cell? ⟨b, off + i * 3 + 1, none⟩ = some (.int .i64 o.2.1) ∧ w.cell? ⟨b, off + i * 3 + 2, none⟩ = some (.int .i64 o.2.2)) :
    Calls Tryz.prog 94 #[.slice (some ⟨b, off, none⟩) l.length cap, .func (.func 95) #[] #[.pointer (some ⟨wb, 0, none⟩), .pointer (some ⟨ib, 0, none⟩)]] w fun e w' =>
      e = .returned (.bool (l.any (onW what wi))) ∧ Below w.heap.size w w' := by
  have hI := indexOn_some what wi l b off cap wb ib w hw1 hw2 hlen hlt hc
  have HA : Hid (decide (widx what wi l ≥ 0) = l.any (onW what wi)) := widx_any what wi l
  obtain ⟨x, hx⟩ : ∃ x, x = widx what wi l := ⟨_, rfl⟩
  rw [← hx] at hI HA
  clear hx hw1 hw2 hc
  go_enter Tryz.func94, Tryz.ntmps94
  go_wp2_with (go_at_call 87; refine hI.mono ?_; rintro e w1 ⟨rfl, b1⟩; clear hI)
  go_ret
  exact ⟨ret_bool HA.out, b1⟩

set_option maxRecDepth 1000000 in
set_option maxHeartbeats 4000000 in
theorem wiresOf_some (what : Int) (l : List O3) (b off cap : Nat) (w : World) (hlen : l.length ≤ 20) (hlt : b < w.heap.size)
    (hc : ∀ (i : Nat) o, l[i]? = some o → w.cell? ⟨b, off + i * 3, none⟩ = some (.int .i64 o.1) ∧ w.cell? ⟨b, off + i * 3 + 1, none⟩ = some (.int .i64 o.2.1) ∧ w.cell? ⟨b, off + i * 3 + 2, none⟩ = some (.int .i64 o.2.2)) :
    Calls Tryz.prog 93 #[.slice (some ⟨b, off, none⟩) l.length cap, .int .i64 what] w fun e w' => ∃ v', e = .returned v' ∧ Ints w' v' (wiresB what l) ∧ Below w.heap.size w w' := by
  obtain ⟨ii, hi, hz0, hz1, hz2⟩ := info_parts infoIntC
  go_enter Tryz.func93, Tryz.ntmps93
  go_wp2
  go_loopw [5, 7] (fun o i wr => ∃ k : Nat, k ≤ 12 ∧ i = .int .i64 k ∧ wr.ownsRow (w.heap.size + 1) 3 1 o (pickN (fun i => l.any (onW what i)) 0 k).length ((pickN (fun i => l.any (onW what i)) 0 k).map (Value.int .i64)) ∧
      Below (w.heap.size + 1) (w.alloc (.cells #[.int .i64 what] 3)) wr) (fun _ i _ => 12 - (intOf i).toNat)
  case atStart => exact ⟨0, Nat.zero_le _, rfl, World.ownsRow_nil _ _ _ _, Below.refl _ _⟩
  case round =>
    obtain ⟨k, hk, rfl, hown, hb⟩ := hrel
    have hpl := pick_len (fun i => l.any (onW what i)) k
    have HS : Hid (pickN (fun i => l.any (onW what i)) 0 (k + 1) = if l.any (onW what k) then pickN (fun i => l.any (onW what i)) 0 k ++ [(k : Int)] else pickN (fun i => l.any (onW what i)) 0 k) := pick_snoc _ k
    obtain ⟨Z, hZ⟩ : ∃ Z, Z = pickN (fun i => l.any (onW what i)) 0 k := ⟨_, rfl⟩
    rw [← hZ] at hown hpl HS
    have HZ : Hid (Z = pickN (fun i => l.any (onW what i)) 0 k) := hZ
    clear hZ
    have hsz : w.heap.size + 1 ≤ wr.heap.size := by have := hb.size; simpa using this
    have bw : Below w.heap.size w wr := ((Below.refl _ w).alloc (Nat.le_refl _) _).trans (hb.mono (by simp))
    by_cases hk12 : k < 12
    · have hk12' : (k : Int) < 12 := by omega
      have bA : Below wr.heap.size wr (wr.alloc (.cells #[.int .i64 k] 3)) := (Below.refl _ _).alloc (Nat.le_refl _) _
      have bwA : Below w.heap.size w (wr.alloc (.cells #[.int .i64 k] 3)) := bw.trans (bA.mono (by omega))
      have x1 : (wr.alloc (.cells #[.int .i64 k] 3)).cell? ⟨w.heap.size, 0, none⟩ = some (.int .i64 what) := (bA.cell (p := ⟨w.heap.size, 0, none⟩) (by simp; omega)).trans ((hb.cell (p := ⟨w.heap.size, 0, none⟩) (by simp)).trans (by simp))
      have x2 : (wr.alloc (.cells #[.int .i64 k] 3)).cell? ⟨wr.heap.size, 0, none⟩ = some (.int .i64 k) := by simp
      have hcon := contains_some what k l b off cap w.heap.size wr.heap.size _ x1 x2 hlen (Nat.lt_of_lt_of_le hlt bwA.size) (fun i o ho => by
        obtain ⟨c0, c1, c2⟩ := hc i o ho
        exact ⟨(bwA.cell (p := ⟨b, _, none⟩) hlt).trans c0, (bwA.cell (p := ⟨b, _, none⟩) hlt).trans c1, (bwA.cell (p := ⟨b, _, none⟩) hlt).trans c2⟩)
      clear x1 hc
      cases hany : l.any (onW what k) with
      | false =>
        rw [hany] at hcon HS
        have HP : Hid (pickN (fun i => l.any (onW what i)) 0 (k + 1) = Z) := by show _ = _; simpa using HS.out
        clear HS hany x2
        go_wp2_with (go_at_call 94; refine hcon.mono ?_; rintro e w2 ⟨rfl, b2⟩; clear hcon)
        go_roundw
        case rel => exact ⟨k + 1, by omega, by go_num, by rw [HP.out]; exact own_all (hown.alloc _) b2, (hb.trans (bA.mono hsz)).trans (b2.mono (by simp; omega))⟩
        case measure => simp [intOf]; omega
      | true =>
        rw [hany] at hcon HS
        have HP : Hid (pickN (fun i => l.any (onW what i)) 0 (k + 1) = Z ++ [(k : Int)]) := by show _ = _; simpa using HS.out
        clear HS hany
        go_wp2_with (first | (go_at_call 94; refine hcon.mono ?_; rintro e w2 ⟨rfl, b2⟩; have hown2 := own_all (hown.alloc _) b2; have hb2 := (hb.trans (bA.mono hsz)).trans (b2.mono (by simp; omega)); have y2 := (b2.cell (p := ⟨wr.heap.size, 0, none⟩) (by simp)).trans x2; clear hcon hown x2) | (at_builtin; refine wpList_append_own _ rfl _ _ 27 rfl (w.heap.size + 1) 3 ii (.int .i64 0) 1 8 Tryz.underlying27 hi hz0 hz1 hz2 rfl (by decide) _ _ _ rfl (hown2.alloc _) ⟨w2.heap.size, 0, none⟩ 1 1 [.int .i64 k] rfl rfl ?c1A ?c2A ?c3A ?c4A ?c5A ?_))
        case c1A =>
          intro j u hj
          match j, hj with
          | 0, hj => simp at hj; subst hj; simp [Addr.add]
        case c2A => intro u hu; simp at hu; subst hu; rfl
        case c3A => unfold maxLen; omega
        case c4A => omega
        case c5A => have := b2.size; simp at this; simp; omega
        intro v' w3 hown' hgrow _
        have hsz2 : w.heap.size + 1 ≤ w2.heap.size := by have := b2.size; simp at this; omega
        have hb3 : Below (w.heap.size + 1) (w.alloc (.cells #[.int .i64 what] 3)) w3 := (hb2.alloc hsz2 _).grown hgrow (by simp; omega) (fun j hj => (hown2.lt j hj).1)
        have R : w3.ownsRow (w.heap.size + 1) 3 1 v' (Z ++ [(k : Int)]).length ((Z ++ [(k : Int)]).map (Value.int .i64)) := by simpa using hown'
        clear hown' hgrow hown2 y2
        go_wp2
        go_roundw
        case rel => exact ⟨k + 1, by omega, by go_num, by rw [HP.out]; exact R, hb3⟩
        case measure => simp [intOf]; omega
    · have hke : k = 12 := by omega
      subst hke
      have HP : Hid (Z = wiresB what l) := HZ.out
      have hv := ints_of_own hown
      obtain ⟨g, n', cap', rfl⟩ := slice_form hown
      clear hown
      go_wp2
      go_ret
      exact ⟨_, rfl, by rw [← HP.out]; exact hv, bw⟩

end Go.Proofs.YtfconbblnmbnpafGreatDoor
namespace Go.Proofs.YtfconbblnmbnpafGreatDoor
open Go.RowKit

set_option maxRecDepth 1000000 in
set_option maxHeartbeats 400000 in
theorem wires_some (l : List O3) (b off cap : Nat) (w : World) (hf : Forms w) (hk0 : (chk l).2 = 0) (hlt : b < w.heap.size)
    (hc : ∀ (i : Nat) o, l[i]? = some o → w.cell? ⟨b, off + i * 3, none⟩ = some (.int .i64 o.1) ∧ w.cell? ⟨b, off + i * 3 + 1, none⟩ = some (.int .i64 o.2.1) ∧ w.cell? ⟨b, off + i * 3 + 2, none⟩ = some (.int .i64 o.2.2)) :
    Calls Tryz.prog 88 #[.slice (some ⟨b, off, none⟩) l.length cap] w fun e w' => ∃ x y, e = .returned (.tuple #[x, y, .nilIface]) ∧ Ints w' x (wiresB 8 l) ∧ Ints w' y (wiresB 9 l) ∧ Below w.heap.size w w' := by
  obtain ⟨hz0, hz1, hz2⟩ := chk_zero hk0
  have hck := check_any (.slice (some ⟨b, off, none⟩) l.length cap) l w hf (Or.inr ⟨b, off, cap, rfl, hlt, hc⟩)
  rw [chk_fst hk0, show errV (0, (0 : Int)).2 = .nilIface from rfl] at hck
  have hwo := fun what W (bW : Below w.heap.size w W) => wiresOf_some what l b off cap W (by omega) (Nat.lt_of_lt_of_le hlt bW.size) (fun i o ho => by
    obtain ⟨c0, c1, c2⟩ := hc i o ho
    exact ⟨(bW.cell (p := ⟨b, _, none⟩) hlt).trans c0, (bW.cell (p := ⟨b, _, none⟩) hlt).trans c1, (bW.cell (p := ⟨b, _, none⟩) hlt).trans c2⟩)
  have hw8 := hwo 8
  have hw9 := hwo 9
  clear hc hk0 hz0 hz2 hwo
  go_enter Tryz.func88, Tryz.ntmps88
  go_wp2_with (first | (go_at_call 67; refine hck.mono ?_; rintro e w1 ⟨rfl, b1⟩; clear hck) | (go_at_call 93; refine (hw8 _ b1).mono ?_; rintro e w2 ⟨x, rfl, ix, b2⟩; have b12 := b1.trans (b2.mono b1.size); clear hw8) | (go_at_call 93; refine (hw9 _ b12).mono ?_; rintro e w3 ⟨y, rfl, iy, b3⟩; clear hw9))
  go_ret3
  exact ⟨x, y, rfl, ints_all ix b3, iy, b12.trans (b3.mono b12.size)⟩
/-- The wires, where nothing is wrong. -/
theorem wires_good (v : Value) (l : List O3) (w : World) (hf : Forms w) (h : Ops w v l) (hk0 : (chk l).2 = 0) :
    Calls Tryz.prog 88 #[v] w fun e w' => ∃ x y, e = .returned (.tuple #[x, y, .nilIface]) ∧ Ints w' x (wiresB 8 l) ∧ Ints w' y (wiresB 9 l) ∧ Below w.heap.size w w' := by
  rcases h with ⟨rfl, ao, cap, rfl⟩ | ⟨b, off, cap, rfl, hlt, hc⟩
  · exact absurd hk0 (by decide)
  · exact wires_some l b off cap w hf hk0 hlt hc
set_option maxRecDepth 1000000 in
set_option maxHeartbeats 400000 in
theorem wires_fault (v : Value) (l : List O3) (w : World) (hf : Forms w) (h : Ops w v l) (hk0 : (chk l).2 ≠ 0) :
    Calls Tryz.prog 88 #[v] w fun e w' => e = .returned (.tuple #[.slice none 0 0, .slice none 0 0, errV (chk l).2]) ∧ Below w.heap.size w w' := by
  have hck := check_any v l w hf h
  have he : errV (chk l).2 = .iface 70 (.int .i64 (chk l).2) := by unfold errV; rw [if_neg hk0]
  rw [he] at hck ⊢
  obtain ⟨ao, cap, rfl⟩ := h.form
  clear he hk0 h
  go_enter Tryz.func88, Tryz.ntmps88
  go_wp2_with (go_at_call 67; refine hck.mono ?_; rintro e w1 ⟨rfl, b1⟩; clear hck)
  go_ret3
  exact ⟨rfl, b1⟩
end Go.Proofs.YtfconbblnmbnpafGreatDoor
