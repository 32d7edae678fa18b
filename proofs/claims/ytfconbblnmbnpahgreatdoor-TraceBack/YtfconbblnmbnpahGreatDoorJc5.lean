/-
  WOpen, Trod, Seqs, LinesL, CutSfx, FourB, TcSplit, TcRead: joined into one text.
-/
import Derived.Test.YtfconbblnmbnpahGreatDoorJc4
import Derived.Test.YtfconbblnmbnpahGreatDoorJc1
import Derived.Lib.SmallJoins
import Derived.Deep.Slices
import Derived.Test.YtfconbblnmbnpahGreatDoorJc2
import Derived.Shelf.Abstract
import Derived.Shelf.RegionOpen
import Derived.OwnWalkIn
import Derived.TacticsInMore
import Derived.LoopNIn
import Derived.LoopIn
import Derived.Deep.CutRange
import Derived.Test.YtfconbblnmbnpahGreatDoorJc3
namespace Go.Proofs.YtfconbblnmbnpahGreatDoor
open Go.ChangeShapes Go.WideShapes Go.ChangeAt Go.WideElems Go.RowKit Go.Deep

set_option maxRecDepth 100000 in
theorem open_wire {H : Type} {enc : TypeId × Value → H} {W : World} {base b0 : Nat} {sp : Nat → Bool} {held : Bool} {r : Reach} {v : Value} {d : DataW H} {p : List MemPlace} (hv : Value.okWide Tryz.prog W r b0 76 v)
    (h : DataW.Trod enc Tryz.prog W base sp held 76 v d p) : ∃ f t k q : Int, v = wV f t k q := by
  obtain ⟨v0, v1, v2, v3, y0, y1, y2, y3, m, rfl, _, _, h0, h1, h2, h3⟩ := Joins.open_agg4 Tryz.underlying76 (by kernel_rfl) (by kernel_rfl) hv h
  obtain ⟨n, e0, _, _⟩ := DataW.trod_int Tryz.underlying3 h0
  obtain ⟨a, e1, _, _⟩ := DataW.trod_int Tryz.underlying3 h1
  obtain ⟨b, e2, _, _⟩ := DataW.trod_int Tryz.underlying3 h2
  obtain ⟨c, e3, _, _⟩ := DataW.trod_int Tryz.underlying3 h3
  simp only [List.cons.injEq, and_true] at e0 e1 e2 e3
  subst e0; subst e1; subst e2; subst e3
  exact ⟨n, a, b, c, rfl⟩
theorem spot_none {W : World} {a : Addr} {v : Value} (h : W.cell? a = some v) : a = ⟨a.block, a.off, none⟩ ∧ a.block < W.heap.size := by
  obtain ⟨b, o, s⟩ := a
  unfold World.cell? at h
  simp only at h
  cases hb : W.heap[b]? with
  | none => rw [hb] at h; cases h
  | some x =>
    rw [hb] at h
    refine ⟨?_, (Array.getElem?_eq_some_iff.1 hb).1⟩
    cases x <;> simp at h
    cases s with
    | none => rfl
    | some s => simp at h
set_option maxRecDepth 100000 in
theorem open_stp {H : Type} {enc : TypeId × Value → H} {W : World} {b0 : Nat} {r : Reach} {v : Value} {d : DataW H} {p : List MemPlace} (hv : Value.okWide Tryz.prog W r b0 41 v)
    (h : DataW.Trod enc Tryz.prog W 0 (fun _ => true) true 41 v d p) : ∃ l : List Int, Stp W v l := by
  obtain ⟨a0, len0, cap0, rfl⟩ := okWide_slice Tryz.underlying41 hv
  obtain ⟨fuel, hf⟩ := h
  rcases open_ints Tryz.underlying41 Tryz.underlying3 (by kernel_rfl) hf with ⟨hcs, _⟩ | ⟨a, len, cap, zs, hcs, _, hl, _, hz, _, hc, _⟩
  · simp [Value.cells] at hcs
    obtain ⟨rfl, rfl, rfl⟩ := hcs
    exact ⟨[], Or.inl ⟨rfl, _, _, rfl⟩⟩
  · simp [Value.cells] at hcs
    obtain ⟨rfl, rfl, rfl⟩ := hcs
    have hlz : len0 ≤ zs.length := by rw [hz]; simpa using hl
    by_cases h0 : len0 = 0
    · subst h0
      exact ⟨[], Or.inl ⟨rfl, _, _, rfl⟩⟩
    · have hz0 := hc 0 (by omega)
      rw [show a.add 0 = a from by simp [Addr.add]] at hz0
      obtain ⟨ha, hlt⟩ := spot_none hz0
      have hlen : (zs.take len0).length = len0 := by rw [List.length_take]; omega
      refine ⟨zs.take len0, Or.inr ⟨a.block, a.off, cap0, by rw [hlen, ← ha], hlt, fun i x hx => ?_⟩⟩
      have hi : i < len0 := by
        have := (List.getElem?_eq_some_iff.1 hx).1
        omega
      have h1 := hc i (by omega)
      rw [ha, Addr.add_lit] at h1
      rw [List.getElem?_take, if_pos hi] at hx
      rw [List.getD_eq_getElem?_getD, hx] at h1
      exact h1
end Go.Proofs.YtfconbblnmbnpahGreatDoor
namespace Go.Proofs.YtfconbblnmbnpahGreatDoor
open Go.ChangeShapes

theorem trodAll_four {H : Type} {enc : TypeId × Value → H} {P : Program} {w : World} {base : Nat} {spare : Nat → Bool} {held : Bool} {t0 t1 t2 t3 : TypeId} {args : Array Value} {ds : List (DataW H)} {ps : List MemPlace} (h : DataW.TrodAll enc P w base spare held [t0, t1, t2, t3] args.toList ds ps) :
    ∃ v0 v1 v2 v3 d0 d1 d2 d3 p0 p1 p2 p3, args = #[v0, v1, v2, v3] ∧ ds = [d0, d1, d2, d3] ∧ DataW.Trod enc P w base spare held t0 v0 d0 p0 ∧ DataW.Trod enc P w base spare held t1 v1 d1 p1 ∧ DataW.Trod enc P w base spare held t2 v2 d2 p2 ∧ DataW.Trod enc P w base spare held t3 v3 d3 p3 := by
  obtain ⟨v0, vs0, d0, ds0, p0, q0, hargs, rfl, rfl, h0, r0⟩ := trodAll_cons h
  obtain ⟨v1, vs1, d1, ds1, p1, q1, rfl, rfl, rfl, h1, r1⟩ := trodAll_cons r0
  obtain ⟨v2, vs2, d2, ds2, p2, q2, rfl, rfl, rfl, h2, r2⟩ := trodAll_cons r1
  obtain ⟨v3, vs3, d3, ds3, p3, q3, rfl, rfl, rfl, h3, r3⟩ := trodAll_cons r2
  obtain ⟨rfl, rfl, rfl⟩ := trodAll_nil r3
  exact ⟨v0, v1, v2, v3, d0, d1, d2, d3, p0, p1, p2, p3, by cases args; simp_all, rfl, h0, h1, h2, h3⟩
theorem trodAll_five {H : Type} {enc : TypeId × Value → H} {P : Program} {w : World} {base : Nat} {spare : Nat → Bool} {held : Bool} {t0 t1 t2 t3 t4 : TypeId} {args : Array Value} {ds : List (DataW H)} {ps : List MemPlace} (h : DataW.TrodAll enc P w base spare held [t0, t1, t2, t3, t4] args.toList ds ps) :
    ∃ v0 v1 v2 v3 v4 d0 d1 d2 d3 d4 p0 p1 p2 p3 p4, args = #[v0, v1, v2, v3, v4] ∧ ds = [d0, d1, d2, d3, d4] ∧ DataW.Trod enc P w base spare held t0 v0 d0 p0 ∧ DataW.Trod enc P w base spare held t1 v1 d1 p1 ∧ DataW.Trod enc P w base spare held t2 v2 d2 p2 ∧ DataW.Trod enc P w base spare held t3 v3 d3 p3 ∧ DataW.Trod enc P w base spare held t4 v4 d4 p4 := by
  obtain ⟨v0, vs0, d0, ds0, p0, q0, hargs, rfl, rfl, h0, r0⟩ := trodAll_cons h
  obtain ⟨v1, vs1, d1, ds1, p1, q1, rfl, rfl, rfl, h1, r1⟩ := trodAll_cons r0
  obtain ⟨v2, vs2, d2, ds2, p2, q2, rfl, rfl, rfl, h2, r2⟩ := trodAll_cons r1
  obtain ⟨v3, vs3, d3, ds3, p3, q3, rfl, rfl, rfl, h3, r3⟩ := trodAll_cons r2
  obtain ⟨v4, vs4, d4, ds4, p4, q4, rfl, rfl, rfl, h4, r4⟩ := trodAll_cons r3
  obtain ⟨rfl, rfl, rfl⟩ := trodAll_nil r4
  exact ⟨v0, v1, v2, v3, v4, d0, d1, d2, d3, d4, p0, p1, p2, p3, p4, by cases args; simp_all, rfl, h0, h1, h2, h3, h4⟩
theorem trodAll_six {H : Type} {enc : TypeId × Value → H} {P : Program} {w : World} {base : Nat} {spare : Nat → Bool} {held : Bool} {t0 t1 t2 t3 t4 t5 : TypeId} {args : Array Value} {ds : List (DataW H)} {ps : List MemPlace} (h : DataW.TrodAll enc P w base spare held [t0, t1, t2, t3, t4, t5] args.toList ds ps) :
    ∃ v0 v1 v2 v3 v4 v5 d0 d1 d2 d3 d4 d5 p0 p1 p2 p3 p4 p5, args = #[v0, v1, v2, v3, v4, v5] ∧ ds = [d0, d1, d2, d3, d4, d5] ∧ DataW.Trod enc P w base spare held t0 v0 d0 p0 ∧ DataW.Trod enc P w base spare held t1 v1 d1 p1 ∧ DataW.Trod enc P w base spare held t2 v2 d2 p2 ∧ DataW.Trod enc P w base spare held t3 v3 d3 p3 ∧ DataW.Trod enc P w base spare held t4 v4 d4 p4 ∧ DataW.Trod enc P w base spare held t5 v5 d5 p5 := by
  obtain ⟨v0, vs0, d0, ds0, p0, q0, hargs, rfl, rfl, h0, r0⟩ := trodAll_cons h
  obtain ⟨v1, vs1, d1, ds1, p1, q1, rfl, rfl, rfl, h1, r1⟩ := trodAll_cons r0
  obtain ⟨v2, vs2, d2, ds2, p2, q2, rfl, rfl, rfl, h2, r2⟩ := trodAll_cons r1
  obtain ⟨v3, vs3, d3, ds3, p3, q3, rfl, rfl, rfl, h3, r3⟩ := trodAll_cons r2
  obtain ⟨v4, vs4, d4, ds4, p4, q4, rfl, rfl, rfl, h4, r4⟩ := trodAll_cons r3
  obtain ⟨v5, vs5, d5, ds5, p5, q5, rfl, rfl, rfl, h5, r5⟩ := trodAll_cons r4
  obtain ⟨rfl, rfl, rfl⟩ := trodAll_nil r5
  exact ⟨v0, v1, v2, v3, v4, v5, d0, d1, d2, d3, d4, d5, p0, p1, p2, p3, p4, p5, by cases args; simp_all, rfl, h0, h1, h2, h3, h4, h5⟩
theorem trodAll_seven {H : Type} {enc : TypeId × Value → H} {P : Program} {w : World} {base : Nat} {spare : Nat → Bool} {held : Bool} {t0 t1 t2 t3 t4 t5 t6 : TypeId} {args : Array Value} {ds : List (DataW H)} {ps : List MemPlace} (h : DataW.TrodAll enc P w base spare held [t0, t1, t2, t3, t4, t5, t6] args.toList ds ps) :
    ∃ v0 v1 v2 v3 v4 v5 v6 d0 d1 d2 d3 d4 d5 d6 p0 p1 p2 p3 p4 p5 p6, args = #[v0, v1, v2, v3, v4, v5, v6] ∧ ds = [d0, d1, d2, d3, d4, d5, d6] ∧ DataW.Trod enc P w base spare held t0 v0 d0 p0 ∧ DataW.Trod enc P w base spare held t1 v1 d1 p1 ∧ DataW.Trod enc P w base spare held t2 v2 d2 p2 ∧ DataW.Trod enc P w base spare held t3 v3 d3 p3 ∧ DataW.Trod enc P w base spare held t4 v4 d4 p4 ∧ DataW.Trod enc P w base spare held t5 v5 d5 p5 ∧ DataW.Trod enc P w base spare held t6 v6 d6 p6 := by
  obtain ⟨v0, vs0, d0, ds0, p0, q0, hargs, rfl, rfl, h0, r0⟩ := trodAll_cons h
  obtain ⟨v1, vs1, d1, ds1, p1, q1, rfl, rfl, rfl, h1, r1⟩ := trodAll_cons r0
  obtain ⟨v2, vs2, d2, ds2, p2, q2, rfl, rfl, rfl, h2, r2⟩ := trodAll_cons r1
  obtain ⟨v3, vs3, d3, ds3, p3, q3, rfl, rfl, rfl, h3, r3⟩ := trodAll_cons r2
  obtain ⟨v4, vs4, d4, ds4, p4, q4, rfl, rfl, rfl, h4, r4⟩ := trodAll_cons r3
  obtain ⟨v5, vs5, d5, ds5, p5, q5, rfl, rfl, rfl, h5, r5⟩ := trodAll_cons r4
  obtain ⟨v6, vs6, d6, ds6, p6, q6, rfl, rfl, rfl, h6, r6⟩ := trodAll_cons r5
  obtain ⟨rfl, rfl, rfl⟩ := trodAll_nil r6
  exact ⟨v0, v1, v2, v3, v4, v5, v6, d0, d1, d2, d3, d4, d5, d6, p0, p1, p2, p3, p4, p5, p6, by cases args; simp_all, rfl, h0, h1, h2, h3, h4, h5, h6⟩
end Go.Proofs.YtfconbblnmbnpahGreatDoor
namespace Go.Proofs.YtfconbblnmbnpahGreatDoor
open Go.RowKit Go.Shelf
attribute [local go_sem] Oper.semAt_some

def encS (l : List UInt8) : Value := .string ⟨l.toArray⟩
/-- How long the text is that a box holds. -/
def boxLen (b : Nat) (w : World) : Nat := match w.cell? ⟨b, 0, none⟩ with | some (.string s) => s.size | _ => 0
theorem boxLen_of {b : Nat} {w : World} {l : List UInt8} {t : TypeId} (h : Boxed w b t (encS l)) : boxLen b w = l.length := by
  unfold boxLen; rw [h.cell]; simp [encS, ByteArray.size]

theorem Boxed.of_cell {W : World} {B : Nat} {t : TypeId} {v u : Value} (h : Boxed W B t v) (hc : W.cell? ⟨B, 0, none⟩ = some u) : Boxed W B t u := by
  rw [h.cell] at hc
  obtain rfl := Option.some.inj hc
  exact h
theorem take_mid (u v : List UInt8) (c : UInt8) : (u ++ c :: v).take (u.length + 1) = u ++ [c] := by
  rw [show u ++ c :: v = (u ++ [c]) ++ v by simp, List.take_append_of_le_length (by simp), List.take_of_length_le (by simp)]
theorem drop_mid (u v : List UInt8) (c : UInt8) : (u ++ c :: v).drop (u.length + 1) = v := by
  rw [show u ++ c :: v = (u ++ [c]) ++ v by simp, List.drop_append_of_le_length (by simp), List.drop_of_length_le (by simp), List.nil_append]
theorem ba_size' (l : List UInt8) : (ByteArray.mk l.toArray).size = l.length := by simp [ByteArray.size]

/-- Texts that are not too long. -/
abbrev ShortN (N : Nat) := { x : List UInt8 // x.length ≤ N }
abbrev Short := ShortN 1099511627776
set_option maxRecDepth 1000000 in
set_option maxHeartbeats 4000000 in
theorem lines_givesN (N : Nat) (hN : N ≤ 140737488355328) (text : List UInt8) (Bi : Nat) (w : World) (hB : Boxed w Bi 9 (encS text)) (hl : text.length ≤ N) :
    Gives Fence.wide 3 Tryz.prog 85 #[.pointer (some ⟨Bi, 0, none⟩)] (fun x : ShortN N => encS x.1) Bi 1 (fun xs => xs.map (·.1) = linesB text) (fun pre => pre.map (·.1) <+: linesB text) text.length w := by
  intro l J Jx W hbel hJ hJx hY h0
  have hBW : Boxed W Bi 9 (encS text) := (hbel.block Bi hB.lt).trans hB
  refine callsIn_of_wp Tryz.func85 rfl trivial ?_ rfl
  simp only [Tryz.ntmps85, List.size_toArray, List.length_cons, List.length_nil, Nat.reduceAdd, Nat.reduceSub, Array.replicate_succ, Array.replicate_zero, List.push_toArray, List.append_toArray, List.nil_append, List.cons_append]
  gi_wp2
  gi_loopw [] (fun wr => ∃ (pre : List (ShortN N)) (rest : List UInt8), Boxed wr Bi 9 (encS rest) ∧ pre.map (·.1) ++ linesB rest = linesB text ∧ pre.length + rest.length ≤ text.length ∧ J pre wr) (fun wr => boxLen Bi wr)
  case atStart => exact ⟨[], text, hBW, by simp, by simp, h0⟩
  case round =>
    obtain ⟨pre, rest, hbx, heq, hlen, hJr⟩ := hrel
    by_cases hne : rest = []
    · subst hne
      have hc : wr.cell? ⟨Bi, 0, none⟩ = some (.string ⟨#[]⟩) := hbx.cell
      have HQ : Hid (pre.map (·.1) = linesB text) := by show _ = _; rw [← heq, lines_nil, List.append_nil]
      clear heq
      gi_wp2
      go_end0
      exact ⟨⟨_, rfl⟩, Or.inl ⟨pre, HQ.out, hJr⟩⟩
    · have hpos : 0 < rest.length := List.length_pos_iff.2 hne
      have hfz := hbx.frozen
      obtain ⟨r, hr⟩ : ∃ r : ByteArray, r = ⟨rest.toArray⟩ := ⟨_, rfl⟩
      have hc : wr.cell? ⟨Bi, 0, none⟩ = some (.string r) := by rw [hr]; exact hbx.cell
      have hrs : r.size = rest.length := by rw [hr, ba_size']
      have hrd : r.data.toList = rest := by rw [hr]
      have hpos' : 0 < r.size := by omega
      have hix := Tryz.strings_IndexByte r 10 wr
      rw [hrd] at hix
      have hlt : pre.length < text.length := by omega
      rcases idx_cases 10 rest with ⟨hno, hi⟩ | ⟨u, v, hu, hnu, hi⟩
      · rw [show ((10 : Int).toNat.toUInt8) = 10 from rfl, hi] at hix
        have hJ' : J pre (wr.setCell ⟨Bi, 0, none⟩ (.string ⟨#[]⟩)) := hJ _ _ _ hJr (grownBy_setCell' _ _ _)
        obtain ⟨fn, tmps, assign, body, hy, hR⟩ := hY pre ⟨rest, by omega⟩ _ hJ' hlt
        simp only at hy
        rw [show encS rest = .string r by rw [hr]; rfl] at hy
        have HL : Hid (linesB text = pre.map (·.1) ++ [rest]) := by show _ = _; rw [← heq, lines_end hno hne]
        have HN : Hid (boxLen Bi wr = rest.length) := boxLen_of hbx
        have hbx2 := hbx.set (.string ⟨#[]⟩)
        clear heq hno hne hr hi
        gi_wp2_with (refine ⟨trivial, ?_⟩; gi_at_call 86; refine (callsIn_wide.2 hix).mono ?_; rintro e w' ⟨rfl, hw'⟩; subst hw')
        refine hR.mono ?_
        rintro e W3 (⟨rfl, hJ3, hk3⟩ | ⟨rfl, hJx3⟩)
        · have hbx3 : Boxed W3 Bi 9 (encS []) := (hk3 Bi (Nat.le_refl _) (by omega)).trans hbx2
          have HM : Hid (boxLen Bi W3 = 0) := boxLen_of hbx3
          clear hy hR
          gi_wp2
          go_roundw
          case rel => exact ⟨pre ++ [⟨rest, _⟩], [], hbx3, by rw [lines_nil, List.append_nil, HL.out]; simp, by simp; omega, hJ3⟩
          case measure => rw [HM.out, HN.out]; exact hpos
        · clear hy hR
          gi_wp2
          refine bodyPost_ret (results_none rfl _ _ _) rfl ?_
          exact ⟨⟨_, rfl⟩, Or.inr ⟨pre ++ [⟨rest, _⟩], by rw [HL.out]; simp, hJx3⟩⟩
      · rw [show ((10 : Int).toNat.toUInt8) = 10 from rfl, hi] at hix
        have hul : u.length + 1 + v.length = rest.length := by rw [hu]; simp; omega
        have hx1 : r.extract 0 (u.length + 1) = ⟨(u ++ [10]).toArray⟩ := by rw [ext_eq, hrd, hu, take_mid]; rfl
        have hx2 : r.extract (u.length + 1) rest.length = ⟨v.toArray⟩ := by rw [ext_eq, hrd, List.take_length, hu, drop_mid]
        have hbx2 : Boxed (wr.setCell ⟨Bi, 0, none⟩ (.string (r.extract (u.length + 1) rest.length))) Bi 9 (encS v) := by rw [hx2]; exact hbx.set _
        have hJ' : J pre (wr.setCell ⟨Bi, 0, none⟩ (.string (r.extract (u.length + 1) rest.length))).drew := hJ _ _ _ hJr ⟨rfl, rfl, rfl, by simp [World.setCell], (grownBy_setCell' wr Bi _).block⟩
        obtain ⟨fn, tmps, assign, body, hy, hR⟩ := hY pre ⟨u ++ [10], by simp; omega⟩ _ hJ' hlt
        simp only at hy
        rw [show encS (u ++ [10]) = .string (r.extract 0 (u.length + 1)) by rw [hx1]; rfl] at hy
        have HL : Hid (linesB text = pre.map (·.1) ++ (u ++ [10]) :: linesB v) := by show _ = _; rw [← heq, hu, lines_at v hnu]
        have HN : Hid (boxLen Bi wr = rest.length) := boxLen_of hbx
        have hub : (u.length : Int) < r.size := by omega
        have hub2 : u.length + 1 ≤ r.size := by omega
        clear heq hne hr hi hu hx1 hx2 hrd
        gi_wp2_with (refine ⟨trivial, ?_⟩; gi_at_call 86; refine (callsIn_wide.2 hix).mono ?_; rintro e w' ⟨rfl, hw'⟩; subst hw')
        gi_region
        gi_wp2
        refine hR.mono ?_
        rintro e W3 (⟨rfl, hJ3, hk3⟩ | ⟨rfl, hJx3⟩)
        · have hbx3 : Boxed W3 Bi 9 (encS v) := (hk3 Bi (Nat.le_refl _) (by omega)).trans hbx2
          have HM : Hid (boxLen Bi W3 = v.length) := boxLen_of hbx3
          clear hy hR
          gi_wp2
          go_roundw
          case rel => exact ⟨pre ++ [⟨u ++ [10], _⟩], v, hbx3, by rw [HL.out]; simp, by simp; omega, hJ3⟩
          case measure => rw [HM.out, HN.out]; omega
        · clear hy hR
          gi_wp2
          refine bodyPost_ret (results_none rfl _ _ _) rfl ?_
          exact ⟨⟨_, rfl⟩, Or.inr ⟨pre ++ [⟨u ++ [10], _⟩], by rw [HL.out]; exact ⟨linesB v, by simp⟩, hJx3⟩⟩
theorem lines_gives (text : List UInt8) (Bi : Nat) (w : World) (hB : Boxed w Bi 9 (encS text)) (hl : text.length ≤ 1099511627776) :
    Gives Fence.wide 3 Tryz.prog 85 #[.pointer (some ⟨Bi, 0, none⟩)] (fun x : Short => encS x.1) Bi 1 (fun xs => xs.map (·.1) = linesB text) (fun pre => pre.map (·.1) <+: linesB text) text.length w := lines_givesN 1099511627776 (by omega) text Bi w hB hl
end Go.Proofs.YtfconbblnmbnpahGreatDoor
namespace Go.Proofs.YtfconbblnmbnpahGreatDoor
open Go.RowKit Go.Shelf

theorem lines_any (s : ByteArray) (w : World) :
    Calls Tryz.prog 47 #[.string s] w fun e w' => e = .returned (.func (.func 85) #[] #[.pointer (some ⟨w.heap.size, 0, none⟩)]) ∧ w' = w.alloc (.cells #[.string s] 9) := by
  go_enter Tryz.func47, Tryz.ntmps47
  go_wp2
  go_ret
  exact ⟨rfl, rfl⟩
end Go.Proofs.YtfconbblnmbnpahGreatDoor
namespace Go.Proofs.YtfconbblnmbnpahGreatDoor
open Go.RowKit

theorem suffix_yes7 (s : ByteArray) (u : List UInt8) (w : World) (hs : s.data.toList = u ++ [10]) (hl : s.size ≤ 140737488355328) :
    Calls Tryz.prog 87 #[.string s, .string ⟨#[10]⟩] w fun e w' => e = .returned (.tuple #[.string ⟨u.toArray⟩, .bool true]) ∧ w' = w := by
  have h := Tryz.strings_CutSuffix s ⟨#[10]⟩ w (by omega)
  have e1 : Lib.hasSuffix s.data.toList [10] = true := by rw [hs]; simp [Lib.hasSuffix]
  have e2 : Lib.trimSuffix s.data.toList [10] = u := by rw [hs]; simp [Lib.trimSuffix, Lib.hasSuffix]
  simp only at h
  rw [show ([10] : List UInt8) = (#[10] : Array UInt8).toList from rfl] at e1 e2
  rw [e1, e2] at h
  exact h
theorem suffix_yes (s : ByteArray) (u : List UInt8) (w : World) (hs : s.data.toList = u ++ [10]) (hl : s.size ≤ 1099511627776) :
    Calls Tryz.prog 87 #[.string s, .string ⟨#[10]⟩] w fun e w' => e = .returned (.tuple #[.string ⟨u.toArray⟩, .bool true]) ∧ w' = w := suffix_yes7 s u w hs (by omega)
theorem suffix_no (s : ByteArray) (w : World) (hs : ∀ u, s.data.toList ≠ u ++ [10]) (hl : s.size ≤ 1099511627776) :
    Calls Tryz.prog 87 #[.string s, .string ⟨#[10]⟩] w fun e w' => (∃ t, e = .returned (.tuple #[.string t, .bool false])) ∧ w' = w := by
  refine (Tryz.strings_CutSuffix s ⟨#[10]⟩ w (by omega)).mono ?_
  rintro e w' ⟨rfl, rfl⟩
  have e1 : Lib.hasSuffix s.data.toList [10] = false := by
    rw [Bool.eq_false_iff]
    intro h
    have : [10] <:+ s.data.toList := by simpa [Lib.hasSuffix] using h
    obtain ⟨u, hu⟩ := this
    exact hs u hu.symm
  rw [show ([10] : List UInt8) = (#[10] : Array UInt8).toList from rfl] at e1
  exact ⟨⟨_, by rw [e1]⟩, rfl⟩
end Go.Proofs.YtfconbblnmbnpahGreatDoor
namespace Go.Proofs.YtfconbblnmbnpahGreatDoor
open Go.RowKit Go.Shelf

/-- The four boxes that words.Read lays at its head, in a later world. -/
theorem four_boxes {w w2 : World} {t0 t1 t2 t3 : TypeId} {v0 v1 v2 v3 : Value}
    (b2 : Below ((((w.alloc (.cells #[v0] t0)).alloc (.cells #[v1] t1)).alloc (.cells #[v2] t2)).alloc (.cells #[v3] t3)).heap.size ((((w.alloc (.cells #[v0] t0)).alloc (.cells #[v1] t1)).alloc (.cells #[v2] t2)).alloc (.cells #[v3] t3)) w2) :
    Boxed w2 w.heap.size t0 v0 ∧ Boxed w2 (w.heap.size + 1) t1 v1 ∧ Boxed w2 (w.heap.size + 1 + 1) t2 v2 ∧ Boxed w2 (w.heap.size + 1 + 1 + 1) t3 v3 ∧ Below w.heap.size w w2 ∧ w.heap.size + 4 ≤ w2.heap.size := by
  have h0 := Boxed.new w t0 v0
  have h1 := Boxed.new (w.alloc (.cells #[v0] t0)) t1 v1
  have h2 := Boxed.new ((w.alloc (.cells #[v0] t0)).alloc (.cells #[v1] t1)) t2 v2
  have h3 := Boxed.new (((w.alloc (.cells #[v0] t0)).alloc (.cells #[v1] t1)).alloc (.cells #[v2] t2)) t3 v3
  simp only [World.size_alloc] at h1 h2 h3
  have hs := b2.size
  simp only [World.size_alloc] at hs
  refine ⟨(b2.block _ (by simp; omega)).trans (((h0.alloc _).alloc _).alloc _), (b2.block _ (by simp)).trans ((h1.alloc _).alloc _), (b2.block _ (by simp)).trans (h2.alloc _), (b2.block _ (by simp)).trans h3, ?_, by omega⟩
  exact (((((Below.refl _ w).alloc (Nat.le_refl _) _).alloc (by simp) _).alloc (by simp; omega) _).alloc (by simp; omega) _).trans (b2.mono (by simp; omega))
end Go.Proofs.YtfconbblnmbnpahGreatDoor
namespace Go.Proofs.YtfconbblnmbnpahGreatDoor
open Go.RowKit

/-- A row of texts that is being laid. -/
def IxT (w : World) (g n : Nat) (ps : List ByteArray) : Prop := (∀ i, i < n → w.frozen? ⟨g, i, none⟩ = false ∧ ∃ y, w.cell? ⟨g, i, none⟩ = some y) ∧ ∀ (i : Nat) x, ps[i]? = some x → w.cell? ⟨g, i, none⟩ = some (.string x)
theorem IxT.set {w : World} {g n : Nat} {ps : List ByteArray} (h : IxT w g n ps) (x : ByteArray) (hk : ps.length < n) : IxT (w.setCell ⟨g, ps.length, none⟩ (.string x)) g n (ps ++ [x]) := by
  have hc : ∀ i, i ≠ ps.length → (w.setCell ⟨g, ps.length, none⟩ (.string x)).cell? ⟨g, i, none⟩ = w.cell? ⟨g, i, none⟩ := fun i hi => World.cell?_setCell_other _ _ _ _ (by intro e; injection e with _ e2; omega)
  have hs : (w.setCell ⟨g, ps.length, none⟩ (.string x)).cell? ⟨g, ps.length, none⟩ = some (.string x) := by
    obtain ⟨_, y, hy⟩ := h.1 _ hk
    simp [go_sem, hy]
  refine ⟨fun i hi => ⟨(World.frozen?_setCell _ _ _ _).trans (h.1 i hi).1, ?_⟩, fun i y hy => ?_⟩
  · by_cases he : i = ps.length
    · subst he; exact ⟨_, hs⟩
    · rw [hc i he]; exact (h.1 i hi).2
  · by_cases he : i = ps.length
    · subst he
      rw [List.getElem?_append_right (Nat.le_refl _), Nat.sub_self] at hy
      simp at hy
      subst hy
      exact hs
    · have hi : i < ps.length := by
        have := (List.getElem?_eq_some_iff.1 hy).1
        rw [List.length_append, List.length_singleton] at this
        omega
      rw [hc i he]
      rw [List.getElem?_append_left hi] at hy
      exact h.2 i y hy
/-- The list that a text is. -/
def bl (x : ByteArray) : List UInt8 := x.data.toList
theorem ixt_new (W : World) (n : Nat) : IxT (W.alloc (.cells (madeCells #[.string ByteArray.empty] n) 9)) W.heap.size n [] := by
  have hN := World.alloc_heap_new W (.cells (madeCells #[.string ByteArray.empty] n) 9)
  generalize W.alloc (.cells (madeCells #[.string ByteArray.empty] n) 9) = W2 at hN ⊢
  refine ⟨fun i hi => ⟨?_, .string ByteArray.empty, ?_⟩, fun i x hx => by simp at hx⟩
  · simp [World.frozen?, hN]
  · simp [World.cell?, hN, madeCells, hi, Nat.mod_one]
theorem made_strs (n : Nat) (hn : n ≤ 5) (W : World) : (Instr.makeSlice 103 (.int .i64 n) (.int .i64 n)).run Tryz.prog W = .ok (.slice (some ⟨W.heap.size, 0, none⟩) n n) (W.alloc (.cells (madeCells #[.string ByteArray.empty] n) 9)) := by
  obtain ⟨i, hi, hz⟩ : ∃ i, Tryz.prog.info? 9 = some i ∧ (i.zero, i.size, i.bytes) = (some (.string ByteArray.empty), 1, 16) := by
    have : (Tryz.prog.info? 9).map (fun i => (i.zero, i.size, i.bytes)) = some (some (.string ByteArray.empty), 1, 16) := by kernel_rfl
    cases hq : Tryz.prog.info? 9 with
    | none => rw [hq] at this; cases this
    | some i => rw [hq] at this; exact ⟨i, rfl, Option.some.inj this⟩
  simp only [Prod.mk.injEq] at hz
  obtain ⟨hz1, hz2, hz3⟩ := hz
  have := run_make (P := Tryz.prog) W 103 9 i _ (by kernel_rfl) hi hz1 .i64 .i64 n n (by omega) (Int.le_refl _) (by rw [hz3]; omega) (by omega)
  rw [hz2] at this
  simpa [Value.cells] using this
/-- What SplitN at a blank, of at most five, gives: all pieces, or five of at least so many. -/
def SplQ (s : List UInt8) (ps : List (List UInt8)) : Prop := (ps.length ≤ 4 ∧ cutB 32 s = ps) ∨ (ps.length = 5 ∧ 5 ≤ (cutB 32 s).length)
theorem cut_none {s : List UInt8} (h : (32 : UInt8) ∉ s) : cutB 32 s = [s] := by
  have := cutGo_none 32 s [] h
  rwa [List.nil_append] at this
theorem splq_none {s r : List UInt8} {ps : List (List UInt8)} (h : cutB 32 s = ps ++ cutB 32 r) (hr : (32 : UInt8) ∉ r) (hl : ps.length ≤ 3) : SplQ s (ps ++ [r]) := by
  rw [cut_none hr] at h
  exact Or.inl ⟨by simp; omega, h⟩
theorem splq_full {s r : List UInt8} {ps : List (List UInt8)} (h : cutB 32 s = ps ++ cutB 32 r) (hl : ps.length = 4) : SplQ s (ps ++ [r]) := by
  have := (cutGo_len 32 r []).1
  refine Or.inr ⟨by simp; omega, ?_⟩
  rw [h, List.length_append]
  unfold cutB
  omega
theorem idx_no {r : List UInt8} (h : (32 : UInt8) ∉ r) : Lib.indexByte r 32 = -1 := by
  rcases idx_cases 32 r with ⟨_, h1⟩ | ⟨u, v, h1, _, _⟩
  · exact h1
  · exact absurd (by rw [h1]; simp) h
theorem bl_take {r : ByteArray} {u v : List UInt8} (h : bl r = u ++ 32 :: v) : bl (r.extract 0 u.length) = u := by
  unfold bl at h ⊢
  rw [ext_eq, h]
  simp
theorem bl_drop {r : ByteArray} {u v : List UInt8} (h : bl r = u ++ 32 :: v) : bl (r.extract (u.length + 1) r.size) = v := by
  have hs : r.data.toList.length = r.size := by simp
  unfold bl at h ⊢
  rw [ext_eq, ← hs, List.take_length, h, drop_mid]
set_option maxRecDepth 100000 in
set_option maxHeartbeats 4000000 in
theorem gensplit_any (s : ByteArray) (w : World) (hl : s.size ≤ 140737488355328) :
    Calls Tryz.prog 126 #[.string s, .string ⟨#[32]⟩, .int .i64 0, .int .i64 5] w fun e w' => ∃ (g : Nat) (ps : List ByteArray) (cap : Nat), e = .returned (.slice (some ⟨g, 0, none⟩) ps.length cap) ∧ SplQ (bl s) (ps.map bl) ∧ g < w'.heap.size ∧ (∀ (i : Nat) x, ps[i]? = some x → w'.cell? ⟨g, i, none⟩ = some (.string x)) ∧ Below w.heap.size w w' := by
  have hsl : s.data.toList.length = s.size := by simp
  obtain ⟨N, hN⟩ : ∃ N : Nat, N = min 5 (s.size + 1) := ⟨_, rfl⟩
  have hN5 : N ≤ 5 := by omega
  have hN1 : 1 ≤ N := by omega
  have hmk := made_strs N hN5
  have hmin : min (5 : Int) ((s.size : Int) + 1) = N := by omega
  have HS : Hid (N = min 5 (s.size + 1)) := hN
  clear hN
  go_enter Tryz.func126, Tryz.ntmps126
  go_wp2_with fail
  clear hmk hmin
  have HI := ixt_new w N
  generalize hW : w.alloc (.cells (madeCells #[.string ByteArray.empty] N) 9) = w2 at HI ⊢
  have b2 : Below w.heap.size w w2 := by rw [← hW]; exact (Below.refl _ _).alloc (Nat.le_refl _) _
  have s2 : w.heap.size < w2.heap.size := by rw [← hW]; simp
  have HI2 : Hid (IxT w2 w.heap.size N []) := HI
  clear hW HI
  go_loopw [0, 10] (fun s0 i wr => ∃ (ps : List ByteArray) (r : ByteArray), s0 = .string r ∧ i = .int .i64 ps.length ∧ Hid (cutB 32 (bl s) = ps.map bl ++ cutB 32 (bl r)) ∧ ps.length + r.size ≤ s.size ∧ ps.length + 1 ≤ N ∧ Hid (IxT wr w.heap.size N ps) ∧ Below w.heap.size w wr ∧ w.heap.size < wr.heap.size) (fun _ i _ => 5 - (intOf i).toNat)
  case atStart => exact ⟨[], s, rfl, rfl, rfl, by simp, by simpa using hN1, HI2, b2, s2⟩
  case round =>
    clear HI2 b2 s2
    obtain ⟨ps, r, rfl, rfl, HC, hlen, hpn, HI, hb, hsz⟩ := hrel
    obtain ⟨k, hk⟩ : ∃ k, ps.length = k := ⟨_, rfl⟩
    have HK : Hid (ps.length = k) := hk
    rw [hk] at hlen hpn ⊢
    have hkN : k < N := by omega
    have hf := (HI.out.1 k hkN).1
    obtain ⟨y, hy⟩ := (HI.out.1 k hkN).2
    have hend : ∀ ps2 : List (List UInt8), SplQ (bl s) (ps.map bl ++ [bl r]) → Hid (SplQ (bl s) ((ps ++ [r]).map bl)) := fun _ h => by
      show SplQ _ _
      rw [List.map_append]
      exact h
    have I8 : Hid (∀ (i : Nat) x, (ps ++ [r])[i]? = some x → (wr.setCell ⟨w.heap.size, k, none⟩ (.string r)).cell? ⟨w.heap.size, i, none⟩ = some (.string x)) := by
      have := (HI.out.set r (by rw [hk]; exact hkN)).2
      rw [hk] at this
      exact this
    have B8 : Below w.heap.size w (wr.setCell ⟨w.heap.size, k, none⟩ (.string r)) := hb.setCell (p := ⟨w.heap.size, k, none⟩) (Nat.le_refl _) _
    have S8 : w.heap.size < (wr.setCell ⟨w.heap.size, k, none⟩ (.string r)).heap.size := by simpa [World.setCell] using hsz
    have HL : Hid ((ps ++ [r]).length = k + 1) := by show _ = _; rw [List.length_append, hk]; rfl
    by_cases hlast : k + 1 = N
    · have d0 : decide ((k : Int) < (N : Int) - 1) = false := decide_eq_false (by omega)
      have HQ : Hid (SplQ (bl s) ((ps ++ [r]).map bl)) := by
        apply hend []
        by_cases h4 : k = 4
        · exact splq_full HC.out (by rw [List.length_map, hk, h4])
        · have hr0 : r.size = 0 := by have := HS.out; omega
          refine splq_none HC.out ?_ (by rw [List.length_map]; omega)
          have : r.data.toList.length = 0 := by rw [show r.data.toList.length = r.size by simp, hr0]
          unfold bl
          rw [List.eq_nil_of_length_eq_zero this]
          simp
      clear HC HI HS hend hlast hk
      go_wp2
      go_ret
      exact ⟨_, ps ++ [r], _, by rw [HL.out]; rfl, HQ.out, S8, I8.out, B8⟩
    · have d0 : decide ((k : Int) < (N : Int) - 1) = true := decide_eq_true (by omega)
      by_cases hm : (32 : UInt8) ∈ bl r
      · rcases idx_cases 32 (bl r) with ⟨h1, _⟩ | ⟨u, v, huv, hu, hix⟩
        · exact absurd hm h1
        · have hq := Tryz.strings_Index_one r 32 wr
          rw [show Lib.indexByte r.data.toList 32 = (u.length : Int) from hix] at hq
          have hrs : r.size = u.length + 1 + v.length := by
            have h1 : r.data.toList.length = r.size := by simp
            have h2 : (bl r).length = r.size := h1
            rw [← h2, huv]; simp; omega
          have HU : Hid (bl (r.extract 0 u.length) = u) := bl_take huv
          have HV : Hid (bl (r.extract (u.length + 1) r.size) = v) := bl_drop huv
          have hvs : (r.extract (u.length + 1) r.size).size = v.length := by
            have h1 : (r.extract (u.length + 1) r.size).data.toList.length = (r.extract (u.length + 1) r.size).size := by simp
            rw [← h1]
            exact congrArg List.length HV.out
          have HC2 : Hid (cutB 32 (bl s) = (ps ++ [r.extract 0 u.length]).map bl ++ cutB 32 (bl (r.extract (u.length + 1) r.size))) := by
            show _ = _
            have h1 : cutB 32 (bl r) = u :: cutB 32 v := by
              rw [huv]
              exact cutGo_at 32 u [] v hu
            rw [HC.out, h1, List.map_append, List.append_assoc, HV.out]
            simp [HU.out]
          have I9 : Hid (IxT (wr.setCell ⟨w.heap.size, k, none⟩ (.string (r.extract 0 u.length))) w.heap.size N (ps ++ [r.extract 0 u.length])) := by
            have := HI.out.set (r.extract 0 u.length) (by rw [hk]; exact hkN)
            rw [hk] at this
            exact this
          have B9 : Below w.heap.size w (wr.setCell ⟨w.heap.size, k, none⟩ (.string (r.extract 0 u.length))) := hb.setCell (p := ⟨w.heap.size, k, none⟩) (Nat.le_refl _) _
          have S9 : w.heap.size < (wr.setCell ⟨w.heap.size, k, none⟩ (.string (r.extract 0 u.length))).heap.size := by simpa [World.setCell] using hsz
          have hlen2 : (k : Nat) + 1 + (r.extract (u.length + 1) r.size).size ≤ s.size := by omega
          have HL2 : Hid ((ps ++ [r.extract 0 u.length]).length = k + 1) := by show _ = _; rw [List.length_append, hk]; rfl
          obtain ⟨U, hU⟩ : ∃ U, u.length = U := ⟨_, rfl⟩
          rw [hU] at hq hrs HC2 I9 B9 S9 hlen2 HL2
          have hub : (U : Int) < r.size := by omega
          have hub2 : U + 1 ≤ r.size := by omega
          have hub3 : (U : Int) + 1 ≤ r.size := by omega
          have hkn2 : k + 1 + 1 ≤ N := by omega
          clear HC HI HS hend hlast hk HU HV hvs hm huv hu hix hU I8 B8 S8 HL hrs
          go_wp2_with (go_at_call 162; refine hq.mono ?_; rintro e wx ⟨rfl, hwx⟩; obtain rfl := hwx.symm)
          go_roundw
          case rel => exact ⟨ps ++ [r.extract 0 U], r.extract (U + 1) r.size, rfl, by rw [HL2.out]; go_num, HC2, by rw [HL2.out]; exact hlen2, by rw [HL2.out]; omega, I9, B9, S9⟩
          case measure => simp [intOf]; omega
      · have hq := Tryz.strings_Index_one r 32 wr
        rw [show Lib.indexByte r.data.toList 32 = -1 from idx_no hm] at hq
        have HQ : Hid (SplQ (bl s) ((ps ++ [r]).map bl)) := hend [] (splq_none HC.out hm (by rw [List.length_map]; omega))
        clear HC HI HS hend hlast hk hm
        go_wp2_with (go_at_call 162; refine hq.mono ?_; rintro e wx ⟨rfl, hwx⟩; obtain rfl := hwx.symm)
        go_ret
        exact ⟨_, ps ++ [r], _, by rw [HL.out]; rfl, HQ.out, S8, I8.out, B8⟩
set_option maxRecDepth 100000 in
set_option maxHeartbeats 1000000 in
theorem splitn_any (s : ByteArray) (w : World) (hl : s.size ≤ 140737488355328) :
    Calls Tryz.prog 88 #[.string s, .string ⟨#[32]⟩, .int .i64 5] w fun e w' => ∃ (g : Nat) (ps : List ByteArray) (cap : Nat), e = .returned (.slice (some ⟨g, 0, none⟩) ps.length cap) ∧ SplQ (bl s) (ps.map bl) ∧ g < w'.heap.size ∧ (∀ (i : Nat) x, ps[i]? = some x → w'.cell? ⟨g, i, none⟩ = some (.string x)) ∧ Below w.heap.size w w' := by
  have q := gensplit_any s w hl
  clear hl
  go_enter Tryz.func88, Tryz.ntmps88
  go_wp2_with (go_at_call 126; refine q.mono ?_; rintro e w1 ⟨g, ps, cap, rfl, h1, h2, h3, h4⟩; clear q)
  go_ret
  exact ⟨_, _, _, rfl, h1, h2, h3, h4⟩
end Go.Proofs.YtfconbblnmbnpahGreatDoor
namespace Go.Proofs.YtfconbblnmbnpahGreatDoor
open Go.RowKit

theorem number7_bl (s : ByteArray) (w : World) (ht : Tabs2 w) :
    Calls Tryz.prog 89 #[.string s, .int .i64 7] w fun e w' => e = .returned (.tuple #[.int .i64 ((numB7 (bl s)).getD 0), .bool (numB7 (bl s)).isSome]) ∧ Below w.heap.size w w' := number7_any s w ht
set_option maxRecDepth 100000 in
set_option maxHeartbeats 1000000 in
theorem rroom_any (s : ByteArray) (w : World) (ht : Tabs2 w) :
    Calls Tryz.prog 90 #[.string s] w fun e w' => e = .returned (.tuple #[.int .i64 ((rmOf (bl s)).getD 0), .bool (rmOf (bl s)).isSome]) ∧ Below w.heap.size w w' := by
  have hst : s.toList = s.data.toList := Lib.toList_data s
  by_cases h : bl s = [45]
  · have HR : Hid (rmOf (bl s) = some (-1)) := by show _ = _; unfold rmOf; rw [if_pos h]
    have hb : (s.toList == [45]) = true := by rw [hst, show s.data.toList = [45] from h]; rfl
    clear h hst ht
    go_enter Tryz.func90, Tryz.ntmps90
    go_wp2
    go_ret2
    rw [HR.out]
    exact ⟨rfl, Below.refl _ _⟩
  · have HR : Hid (rmOf (bl s) = numB7 (bl s)) := by show _ = _; unfold rmOf; rw [if_neg h]
    have hb : (s.toList == [45]) = false := by rw [hst]; simpa using (show ¬ s.data.toList = [45] from h)
    have q := number7_bl s w ht
    clear h hst ht
    go_enter Tryz.func90, Tryz.ntmps90
    go_wp2_with (go_at_call 89; refine q.mono ?_; rintro e w1 ⟨rfl, b1⟩; clear q)
    go_ret2
    rw [HR.out]
    exact ⟨rfl, b1⟩
theorem suffix_not (s : ByteArray) (w : World) (hs : ∀ u, bl s ≠ u ++ [10]) (hl : s.size ≤ 140737488355328) :
    Calls Tryz.prog 87 #[.string s, .string ⟨#[10]⟩] w fun e w' => e = .returned (.tuple #[.string ⟨(bl s).toArray⟩, .bool false]) ∧ w' = w := by
  refine (Tryz.strings_CutSuffix s ⟨#[10]⟩ w (by omega)).mono ?_
  rintro e w' ⟨rfl, rfl⟩
  have e1 : Lib.hasSuffix s.data.toList [10] = false := by
    rw [Bool.eq_false_iff]
    intro h
    have : [10] <:+ s.data.toList := by simpa [Lib.hasSuffix] using h
    obtain ⟨u, hu⟩ := this
    exact hs u hu.symm
  have e2 : Lib.trimSuffix s.data.toList [10] = bl s := by unfold Lib.trimSuffix; rw [e1]; rfl
  rw [show ([10] : List UInt8) = (#[10] : Array UInt8).toList from rfl] at e1 e2
  exact ⟨by rw [e1, e2], rfl⟩
def evRes : Option W4 → Value
  | some e => .tuple #[.agg #[.int .i64 e.1, .int .i64 e.2.1, .int .i64 e.2.2.1, .int .i64 e.2.2.2], .bool true]
  | none => .tuple #[.agg #[.int .i64 0, .int .i64 0, .int .i64 0, .int .i64 0], .bool false]
/-- The box of an event that read lays at its head, in a later world. -/
theorem tev_box {w w1 : World} {x y z u : Value} (b1 : Below (w.heap.size + 1) (w.alloc (.cells #[x, y, z, u] 32)) w1) :
    (w1.cell? ⟨w.heap.size, 0, none⟩ = some x ∧ w1.cell? ⟨w.heap.size, 1, none⟩ = some y ∧ w1.cell? ⟨w.heap.size, 2, none⟩ = some z ∧ w1.cell? ⟨w.heap.size, 3, none⟩ = some u) ∧ (w1.frozen? ⟨w.heap.size, 0, none⟩ = false ∧ w1.frozen? ⟨w.heap.size, 1, none⟩ = false ∧ w1.frozen? ⟨w.heap.size, 2, none⟩ = false ∧ w1.frozen? ⟨w.heap.size, 3, none⟩ = false) ∧ Below w.heap.size w w1 :=
  ⟨⟨(b1.cell (p := ⟨w.heap.size, 0, none⟩) (by simp)).trans (by simp), (b1.cell (p := ⟨w.heap.size, 1, none⟩) (by simp)).trans (by simp), (b1.cell (p := ⟨w.heap.size, 2, none⟩) (by simp)).trans (by simp), (b1.cell (p := ⟨w.heap.size, 3, none⟩) (by simp)).trans (by simp)⟩,
   ⟨(b1.frozen (p := ⟨w.heap.size, 0, none⟩) (by simp)).trans (by simp), (b1.frozen (p := ⟨w.heap.size, 1, none⟩) (by simp)).trans (by simp), (b1.frozen (p := ⟨w.heap.size, 2, none⟩) (by simp)).trans (by simp), (b1.frozen (p := ⟨w.heap.size, 3, none⟩) (by simp)).trans (by simp)⟩,
   ((Below.refl _ w).alloc (Nat.le_refl _) _).trans (b1.mono (by omega))⟩
theorem tev_box_set {w w1 : World} (hb : Below w.heap.size w w1) (x y z u : Value) : Below w.heap.size w ((((w1.setCell ⟨w.heap.size, 0, none⟩ x).setCell ⟨w.heap.size, 1, none⟩ y).setCell ⟨w.heap.size, 2, none⟩ z).setCell ⟨w.heap.size, 3, none⟩ u) :=
  (((hb.setCell (p := ⟨w.heap.size, 0, none⟩) (Nat.le_refl _) _).setCell (p := ⟨w.heap.size, 1, none⟩) (Nat.le_refl _) _).setCell (p := ⟨w.heap.size, 2, none⟩) (Nat.le_refl _) _).setCell (p := ⟨w.heap.size, 3, none⟩) (Nat.le_refl _) _
set_option maxRecDepth 1000000 in
set_option maxHeartbeats 4000000 in
theorem tread_no (s : ByteArray) (w : World) (hl : s.size ≤ 140737488355328) (hs : ∀ u, bl s ≠ u ++ [10]) :
    Calls Tryz.prog 48 #[.string s] w fun e w' => e = .returned (evRes none) ∧ Below w.heap.size w w' := by
  have hS := suffix_not s (w.alloc (.cells #[.int .i64 0, .int .i64 0, .int .i64 0, .int .i64 0] 32)) hs hl
  have hP := splitn_any ⟨(bl s).toArray⟩ (w.alloc (.cells #[.int .i64 0, .int .i64 0, .int .i64 0, .int .i64 0] 32)) (by rw [ba_size']; exact (show s.data.toList.length = s.size by simp).symm ▸ hl)
  unfold evRes
  clear hs hl
  go_enter Tryz.func48, Tryz.ntmps48
  go_wp2_with (first | (go_at_call 87; refine hS.mono ?_; rintro e wx ⟨rfl, hwx⟩; obtain rfl := hwx.symm; clear hS) | (go_at_call 88; refine hP.mono ?_; rintro e w1 ⟨g, ps, cap, rfl, _, _, _, b1⟩; clear hP; obtain ⟨⟨k0, k1, k2, k3⟩, ⟨f0, f1, f2, f3⟩, bw⟩ := tev_box (by simpa using b1)))
  refine bodyPost_ret (v := .tuple #[.agg #[.int .i64 0, .int .i64 0, .int .i64 0, .int .i64 0], .bool false]) ?_ rfl ⟨rfl, ?_⟩
  · simp [results, Tryz.results48, go_sem, k0, k1, k2, k3]
  · exact tev_box_set bw _ _ _ _
set_option maxRecDepth 1000000 in
set_option maxHeartbeats 4000000 in
theorem tread_yes (s : ByteArray) (u : List UInt8) (w : World) (ht : Tabs2 w) (hl : s.size ≤ 140737488355328) (hs : bl s = u ++ [10]) :
    Calls Tryz.prog 48 #[.string s] w fun e w' => e = .returned (evRes (evOf1 u)) ∧ Below w.heap.size w w' := by
  have hul : u.length ≤ 140737488355328 := by
    have h1 : s.data.toList.length = s.size := by simp
    have h2 : (bl s).length = s.size := h1
    rw [hs, List.length_append] at h2
    omega
  have hw0 : Below w.heap.size w (w.alloc (.cells #[.int .i64 0, .int .i64 0, .int .i64 0, .int .i64 0] 32)) := (Below.refl _ _).alloc (Nat.le_refl _) _
  have hS := suffix_yes7 s u (w.alloc (.cells #[.int .i64 0, .int .i64 0, .int .i64 0, .int .i64 0] 32)) hs hl
  have hP := splitn_any ⟨u.toArray⟩ (w.alloc (.cells #[.int .i64 0, .int .i64 0, .int .i64 0, .int .i64 0] 32)) (by rw [ba_size']; exact hul)
  have HT : Hid (∀ W, Below w.heap.size w W → Tabs2 W) := fun W hb => ht.all hb
  have hub : bl ⟨u.toArray⟩ = u := by unfold bl; simp
  rw [hub] at hP
  clear hs hl hul ht hub
  go_enter Tryz.func48, Tryz.ntmps48
  go_upto_region 3 with (first | (go_at_call 87; refine hS.mono ?_; rintro e wx ⟨rfl, hwx⟩; obtain rfl := hwx.symm; clear hS) | (go_at_call 88; refine hP.mono ?_; rintro e w1 ⟨g, ps, cap, rfl, hq, hg, hc, b1⟩; clear hP))
  have bz : Below (w.heap.size + 1) (w.alloc (.cells #[.int .i64 0, .int .i64 0, .int .i64 0, .int .i64 0] 32)) w1 := by simpa using b1
  obtain ⟨⟨k0, k1, k2, k3⟩, ⟨f0, f1, f2, f3⟩, bw⟩ := tev_box bz
  by_cases h4 : ps.length = 4
  · obtain ⟨a, b, c, d, rfl⟩ : ∃ a b c d, ps = [a, b, c, d] := by
      match ps, h4 with
      | [a, b, c, d], _ => exact ⟨a, b, c, d, rfl⟩
    have hcut : cutB 32 u = [bl a, bl b, bl c, bl d] := by
      rcases hq with ⟨_, h⟩ | ⟨h, _⟩
      · exact h
      · simp at h
    have HV : Hid (evOf1 u = ev4 (numB7 (bl a)) (rmOf (bl b)) (numB7 (bl c)) (numB7 (bl d))) := evOf1_of hcut
    have c0 := hc 0 a rfl
    have c1 := hc 1 b rfl
    have c2 := hc 2 c rfl
    have c3 := hc 3 d rfl
    have q1 := number7_bl a w1 (HT.out _ bw)
    clear h4 hq hc hcut
    go_upto_region 6 with (go_at_call 89; refine q1.mono ?_; rintro e w2 ⟨rfl, b2⟩; clear q1)
    have bw2 := bw.trans (b2.mono bw.size)
    have bz2 := bz.trans (b2.mono (by have := bz.size; simpa using this))
    have g2 : g < w2.heap.size := Nat.lt_of_lt_of_le hg b2.size
    replace c1 := (b2.cell (p := ⟨g, 1, none⟩) hg).trans c1
    replace c2 := (b2.cell (p := ⟨g, 2, none⟩) hg).trans c2
    replace c3 := (b2.cell (p := ⟨g, 3, none⟩) hg).trans c3
    have q2 := rroom_any b w2 (HT.out _ bw2)
    clear c0 k0 k1 k2 k3 f0 f1 f2 f3 b2 hg bw bz b1
    go_upto_region 7 with (go_at_call 90; refine q2.mono ?_; rintro e w3 ⟨rfl, b3⟩; clear q2)
    have bw3 := bw2.trans (b3.mono bw2.size)
    have bz3 := bz2.trans (b3.mono (by have := bz2.size; simpa using this))
    have g3 : g < w3.heap.size := Nat.lt_of_lt_of_le g2 b3.size
    replace c2 := (b3.cell (p := ⟨g, 2, none⟩) g2).trans c2
    replace c3 := (b3.cell (p := ⟨g, 3, none⟩) g2).trans c3
    have q3 := number7_bl c w3 (HT.out _ bw3)
    clear c1 b3 g2 bw2 bz2
    go_upto_region 8 with (go_at_call 89; refine q3.mono ?_; rintro e w4 ⟨rfl, b4⟩; clear q3)
    have bw4 := bw3.trans (b4.mono bw3.size)
    have bz4 := bz3.trans (b4.mono (by have := bz3.size; simpa using this))
    replace c3 := (b4.cell (p := ⟨g, 3, none⟩) g3).trans c3
    have q4 := number7_bl d w4 (HT.out _ bw4)
    clear c2 b4 g3 bw3 bz3
    go_upto_region 9 with (go_at_call 89; refine q4.mono ?_; rintro e w5 ⟨rfl, b5⟩; clear q4)
    have bw5 := bw4.trans (b5.mono bw4.size)
    have bz5 := bz4.trans (b5.mono (by have := bz4.size; simpa using this))
    obtain ⟨⟨k0, k1, k2, k3⟩, ⟨f0, f1, f2, f3⟩, bw⟩ := tev_box bz5
    clear c3 b5 bw4 bz4 bw5 bz5
    generalize numB7 (bl a) = A at HV ⊢
    generalize rmOf (bl b) = B at HV ⊢
    generalize numB7 (bl c) = C at HV ⊢
    generalize numB7 (bl d) = D at HV ⊢
    have hfin : ∀ z0 z1 z2 z3 : Int, Below w.heap.size w ((((w5.setCell ⟨w.heap.size, 0, none⟩ (.int .i64 z0)).setCell ⟨w.heap.size, 1, none⟩ (.int .i64 z1)).setCell ⟨w.heap.size, 2, none⟩ (.int .i64 z2)).setCell ⟨w.heap.size, 3, none⟩ (.int .i64 z3)) := fun _ _ _ _ => tev_box_set bw _ _ _ _
    cases A with
    | none =>
      have HN : Hid (evOf1 u = none) := HV.out.trans (ev4_n1 _ _ _)
      clear HV
      go_wp2
      refine bodyPost_ret (v := .tuple #[.agg #[.int .i64 0, .int .i64 0, .int .i64 0, .int .i64 0], .bool false]) ?_ rfl ⟨by rw [HN.out]; rfl, hfin _ _ _ _⟩
      simp [results, Tryz.results48, go_sem, k0, k1, k2, k3]
    | some x0 =>
      cases B with
      | none =>
        have HN : Hid (evOf1 u = none) := HV.out.trans (ev4_n2 _ _ _)
        clear HV
        go_wp2
        refine bodyPost_ret (v := .tuple #[.agg #[.int .i64 0, .int .i64 0, .int .i64 0, .int .i64 0], .bool false]) ?_ rfl ⟨by rw [HN.out]; rfl, hfin _ _ _ _⟩
        simp [results, Tryz.results48, go_sem, k0, k1, k2, k3]
      | some x1 =>
        cases C with
        | none =>
          have HN : Hid (evOf1 u = none) := HV.out.trans (ev4_n3 _ _ _)
          clear HV
          go_wp2
          refine bodyPost_ret (v := .tuple #[.agg #[.int .i64 0, .int .i64 0, .int .i64 0, .int .i64 0], .bool false]) ?_ rfl ⟨by rw [HN.out]; rfl, hfin _ _ _ _⟩
          simp [results, Tryz.results48, go_sem, k0, k1, k2, k3]
        | some x2 =>
          cases D with
          | none =>
            have HN : Hid (evOf1 u = none) := HV.out.trans (ev4_n4 _ _ _)
            clear HV
            go_wp2
            refine bodyPost_ret (v := .tuple #[.agg #[.int .i64 0, .int .i64 0, .int .i64 0, .int .i64 0], .bool false]) ?_ rfl ⟨by rw [HN.out]; rfl, hfin _ _ _ _⟩
            simp [results, Tryz.results48, go_sem, k0, k1, k2, k3]
          | some x3 =>
            have HN : Hid (evOf1 u = some (x0, x1, x2, x3)) := HV.out
            clear HV
            go_wp2
            refine bodyPost_ret (v := .tuple #[.agg #[.int .i64 x0, .int .i64 x1, .int .i64 x2, .int .i64 x3], .bool true]) ?_ rfl ⟨by rw [HN.out]; rfl, hfin _ _ _ _⟩
            simp [results, Tryz.results48, go_sem, k0, k1, k2, k3]
  · have HN : Hid (evOf1 u = none) := by
      refine evOf1_not4 ?_
      rcases hq with ⟨_, h⟩ | ⟨_, h⟩
      · rw [h, List.length_map]; exact h4
      · omega
    have hn4 : ((ps.length : Int) == 4) = false := by simp; omega
    have hn4' : ((ps.length : Int) != 4) = true := by simp; omega
    clear hq hc h4
    go_wp2
    refine bodyPost_ret (v := .tuple #[.agg #[.int .i64 0, .int .i64 0, .int .i64 0, .int .i64 0], .bool false]) ?_ rfl ⟨by rw [HN.out]; rfl, ?_⟩
    · simp [results, Tryz.results48, go_sem, k0, k1, k2, k3]
    · exact tev_box_set bw _ _ _ _
theorem tread_any (s : ByteArray) (w : World) (ht : Tabs2 w) (hl : s.size ≤ 140737488355328) :
    Calls Tryz.prog 48 #[.string s] w fun e w' => e = .returned (evRes (evRd (bl s))) ∧ Below w.heap.size w w' := by
  by_cases h : ∃ u, bl s = u ++ [10]
  · obtain ⟨u, hu⟩ := h
    rw [hu, evRd_yes]
    exact tread_yes s u w ht hl hu
  · have h2 : ∀ u, bl s ≠ u ++ [10] := fun u e => h ⟨u, e⟩
    rw [evRd_no h2]
    exact tread_no s w hl h2
end Go.Proofs.YtfconbblnmbnpahGreatDoor
