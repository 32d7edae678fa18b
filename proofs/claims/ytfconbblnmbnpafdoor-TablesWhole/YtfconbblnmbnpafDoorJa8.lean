/-
  KerG, StFz, EvEq, POpen, St8, WOpen, FlowOwn, SgtMath, PurgeM, CareM, CrKern, Trod, Blk4, CarC, FlRoom, OpsL, PgClone, PgHas, PrgE, PrgCP, CStays0: joined into one text.
-/
import Derived.Test.YtfconbblnmbnpafDoorJa7
import Derived.Test.YtfconbblnmbnpafDoorGNew
import Derived.Test.YtfconbblnmbnpafDoorJa1
import Derived.Laws.StructEq
import Derived.Lib.SmallJoins
import Derived.Deep.Slices
import Derived.Test.YtfconbblnmbnpafDoorJa3
import Derived.Test.YtfconbblnmbnpafDoorJa6
import Derived.Deep.RegionLaw
import Derived.Deep.RegionWith
import Derived.Lib.SliceRun
namespace Go.Proofs.YtfconbblnmbnpafDoor
open Go.RowKit

/-- A kernel of package kernel, made since w0, and all its blocks. -/
def KG (w0 w : World) (p : PD) (k : KD) (kb : Nat) (F : List Nat) : Prop := ∃ a : GW, GK w w0.heap.size p k kb a ∧ F = a.F kb ∧ Below w0.heap.size w0 w
def gker {G : World → Prop} (hG : ∀ w, G w → Forms w) (hall : ∀ w w', G w → Below w.heap.size w w' → G w') : KerC G where
  K := fun w0 w p _ _ _ k kb F => KG w0 w p k kb F
  all := hall
  since := fun ⟨_, _, _, hb⟩ => hb
  ge := fun ⟨_, h, hF, _⟩ g hg => by
    subst hF
    exact ⟨h.ge g hg, h.flt g hg⟩
  lower := fun h1 ⟨a, h, hF, hb⟩ => ⟨a, h.lower h1.size, hF, h1.trans (hb.mono h1.size)⟩
  frame := fun ⟨a, h, hF, hb⟩ ht hM => by
    subst hF
    exact ⟨a, h.frame ht (fun m hm => (hM m hm).1), rfl, hb.trans (ht.below (fun m hm => (hM m hm).2) hb.size)⟩
  new := fun p vc vs vw W hg hP hp => by
    refine (gnew_ok p vc vs vw W (hG W hg) hP hp).mono ?_
    rintro e w' ⟨kb, a, rfl, h, hb⟩
    exact ⟨kb, _, rfl, a, h, rfl, hb⟩
  no := fun p vc vs vw W hg hP hp => gnew_no p vc vs vw W (hG W hg) hP hp
  tick := fun {w0 W p _ _ _ k kb F} hg ⟨a, h, hF, hb⟩ hp hk ht => by
    subst hF
    refine (gtick_any p k kb w0.heap.size a W ((hG w0 hg).all hb) h hb.size hp hk ht).mono ?_
    rintro e w' ⟨rfl, a', h1, h2, h3⟩
    exact ⟨rfl, _, ⟨a', h1, rfl, hb.trans (h2.below h.ge hb.size)⟩, h2, h3⟩
  state := fun {_ W p _ _ _ k kb _} r ⟨a, h, _, _⟩ _ _ => gstate_any p k kb _ a r W h
end Go.Proofs.YtfconbblnmbnpafDoor
namespace Go.Proofs.YtfconbblnmbnpafDoor
open Go.RowKit

theorem stb_fz {w : World} {b : Nat} {s : St} (h : StB w b s) (o : Nat) : w.frozen? ⟨b, o, none⟩ = false := by
  have e : w.heap[b]? = _ := h
  simp [World.frozen?, e]
end Go.Proofs.YtfconbblnmbnpafDoor
namespace Go.Proofs.YtfconbblnmbnpafDoor
open Go.RowKit

theorem fieldsEv : Tryd.prog.underlying 45 = some (.struct (Tryd.prog.fieldsOf 45)) := by kernel_rfl
theorem stoodEv : Tryd.prog.stoodInHeld 45 = false := by kernel_rfl
theorem fieldsEvIs : Tryd.prog.fieldsOf 45 = #[{ name := "Tick", type := 3, offset := 0, embedded := false, tag := "", pkgPath := "", byteOffset := 0 }, { name := "Room", type := 3, offset := 1, embedded := false, tag := "", pkgPath := "", byteOffset := 8 }, { name := "At", type := 3, offset := 2, embedded := false, tag := "", pkgPath := "", byteOffset := 16 }, { name := "What", type := 3, offset := 3, embedded := false, tag := "", pkgPath := "", byteOffset := 24 }] := by kernel_rfl
theorem eqIn_ev (a b c d : Int) (w : World) : (Op.equalIn 10000 45 (.agg #[.int .i64 a, .int .i64 b, .int .i64 c, .int .i64 d]) (.agg #[.int .i64 a, .int .i64 b, .int .i64 c, .int .i64 d])).run Tryd.prog w = .ok true w := by
  rw [run_equalIn_agg _ _ _ _ _ fieldsEv stoodEv, fieldsEvIs]
  simp [go_sem, Tryd.underlying3]
theorem eql_ev (a b c d : Int) (w : World) : (binOp .eql 45 (.agg #[.int .i64 a, .int .i64 b, .int .i64 c, .int .i64 d]) (.agg #[.int .i64 a, .int .i64 b, .int .i64 c, .int .i64 d])).run Tryd.prog w = .ok (.bool true) w := by
  rw [run_eql_struct, eqIn_ev]
  rfl
theorem neq_ev (a b c d : Int) (w : World) : (binOp .neq 45 (.agg #[.int .i64 a, .int .i64 b, .int .i64 c, .int .i64 d]) (.agg #[.int .i64 a, .int .i64 b, .int .i64 c, .int .i64 d])).run Tryd.prog w = .ok (.bool false) w := by
  rw [run_neq_struct, eqIn_ev]
  rfl
theorem guardEv : Tryd.prog.eqGuardType Tryd.prog.depth 45 = false := by kernel_rfl
end Go.Proofs.YtfconbblnmbnpafDoor
namespace Go.Proofs.YtfconbblnmbnpafDoor
open Go.ChangeShapes Go.WideShapes Go.ChangeAt Go.WideElems Go.RowKit Go.Deep

theorem pk_spot {W : World} {a : Addr} {v : Value} (h : W.cell? a = some v) : a = ⟨a.block, a.off, none⟩ ∧ a.block < W.heap.size := by
  obtain ⟨b, o, s⟩ := a
  unfold World.cell? at h
  simp only at h
  cases hb : W.heap[b]? with
  | none => rw [hb] at h; cases h
  | some x =>
    rw [hb] at h
    refine ⟨?_, (Array.getElem?_eq_some_iff.1 hb).1⟩
    cases x <;> simp at h
    cases s with
    | none => rfl
    | some s => simp at h
theorem pk_lt {α : Type} [Inhabited α] {p : Nat → α → Prop} {n : Nat} (h : ∀ i, i < n → ∃ x, p i x) : ∃ f : Nat → α, ∀ i, i < n → p i (f i) := by
  refine ⟨fun i => if hi : i < n then (h i hi).choose else default, fun i hi => ?_⟩
  simp only [hi, dif_pos]
  exact (h i hi).choose_spec
/-- A slice read as data, at the level of its cell. -/
theorem pk_slice {α : Type} [Inhabited α] {H : Type} {enc : TypeId × Value → H} {P : Program} {W : World} {base : Nat} {sp : Nat → Bool} {held : Bool} {fuel : Nat} {cs : List Value} {x : DataW H × List MemPlace} {t e : TypeId} {k : Nat}
    (ht : P.underlying t = some (.slice e)) (hk : P.cellsOf e = k) (hk0 : 0 < k) (R : List Value → α → Prop)
    (hel : ∀ (n : Nat) (cs : List Value) (x : DataW H × List MemPlace), DataW.trod enc P W base sp held n e cs = some x → ∃ o, R cs o)
    (h : DataW.trod enc P W base sp held fuel t cs = some x) :
    ∃ a len cap, cs = [.slice a len cap] ∧ (len = 0 ∨ ∃ b off, a = some ⟨b, off, none⟩ ∧ len ≤ cap ∧ b < W.heap.size ∧ ∃ l : List α, l.length = len ∧ ∀ i o, l[i]? = some o → ∃ us, us.length = k ∧ R us o ∧ ∀ j, j < k → W.cell? ⟨b, off + i * k + j, none⟩ = us[j]?) := by
  rcases open_slice ht h with ⟨rfl, _⟩ | ⟨a, len, cap, m, n, D, Pl, rfl, _, hl, _, hm, _, he⟩
  · exact ⟨none, 0, 0, rfl, Or.inl rfl⟩
  · refine ⟨some a, len, cap, rfl, ?_⟩
    have hlm : len ≤ m := by rw [hm]; split <;> omega
    by_cases h0 : len = 0
    · exact Or.inl h0
    · rw [hk] at he
      obtain ⟨F, hF⟩ := pk_lt (α := α × List Value) (p := fun i o => o.2.length = k ∧ R o.2 o.1 ∧ ∀ j, j < k → W.cell? ((a.add (i * k)).add j) = o.2[j]?) (n := len) (fun i hi => by
        obtain ⟨us, h1, h2⟩ := he i (by omega)
        obtain ⟨o, ho⟩ := hel _ _ _ h2
        obtain ⟨_, h3, h4⟩ := World.cells?_some h1
        exact ⟨(o, us), h3, ho, h4⟩)
      obtain ⟨l0, _, c0⟩ := hF 0 (by omega)
      have hz := c0 0 hk0
      rw [show (a.add (0 * k)).add 0 = a from by simp [Addr.add], List.getElem?_eq_getElem (by omega)] at hz
      obtain ⟨ha, hlt⟩ := pk_spot hz
      refine Or.inr ⟨a.block, a.off, by rw [← ha], hl, hlt, (List.range len).map (fun i => (F i).1), by simp, fun i o ho => ?_⟩
      have hi : i < len := by
        have := (List.getElem?_eq_some_iff.1 ho).1
        simpa using this
      have hoi : (F i).1 = o := by simpa [hi] using ho
      obtain ⟨h1, h2, h3⟩ := hF i hi
      refine ⟨(F i).2, h1, hoi ▸ h2, fun j hj => ?_⟩
      have := h3 j hj
      rw [ha] at this
      simp only [Addr.add_lit] at this
      exact this
theorem pcInt : Tryd.prog.cellsOf 3 = 1 := by kernel_rfl
theorem pcOp : Tryd.prog.cellsOf 57 = 3 := by kernel_rfl
theorem pcSpan : Tryd.prog.cellsOf 59 = 3 := by kernel_rfl
theorem pcWire : Tryd.prog.cellsOf 83 = 4 := by kernel_rfl
theorem pcOps : Tryd.prog.cellsOf 36 = 1 := by kernel_rfl
section
variable {H : Type} {enc : TypeId × Value → H} {W : World} {base : Nat} {sp : Nat → Bool} {held : Bool}
set_option maxRecDepth 100000 in
theorem pk_op (n : Nat) (cs : List Value) (x : DataW H × List MemPlace) (h : DataW.trod enc Tryd.prog W base sp held n 57 cs = some x) : ∃ o : O3, cs = [.int .i64 o.1, .int .i64 o.2.1, .int .i64 o.2.2] := by
  obtain ⟨y0, y1, y2, n, _, hl, h0, h1, h2⟩ := trod_struct3 Tryd.underlying57 h
  rw [pcOp] at hl
  match cs, hl with
  | [c0, c1, c2], _ =>
    simp only [pcInt] at h0 h1 h2
    simp at h0 h1 h2
    obtain ⟨n, e0, _, _⟩ := DataW.trod_int Tryd.underlying3 h0
    obtain ⟨a, e1, _, _⟩ := DataW.trod_int Tryd.underlying3 h1
    obtain ⟨b, e2, _, _⟩ := DataW.trod_int Tryd.underlying3 h2
    simp only [List.cons.injEq, and_true] at e0 e1 e2
    subst e0; subst e1; subst e2
    exact ⟨(n, a, b), rfl⟩
set_option maxRecDepth 100000 in
theorem pk_span (n : Nat) (cs : List Value) (x : DataW H × List MemPlace) (h : DataW.trod enc Tryd.prog W base sp held n 59 cs = some x) : ∃ o : S3, cs = [.int .i64 o.1, .int .i64 o.2.1, .int .i64 o.2.2] := by
  obtain ⟨y0, y1, y2, n, _, hl, h0, h1, h2⟩ := trod_struct3 Tryd.underlying59 h
  rw [pcSpan] at hl
  match cs, hl with
  | [c0, c1, c2], _ =>
    simp only [pcInt] at h0 h1 h2
    simp at h0 h1 h2
    obtain ⟨n, e0, _, _⟩ := DataW.trod_int Tryd.underlying3 h0
    obtain ⟨a, e1, _, _⟩ := DataW.trod_int Tryd.underlying3 h1
    obtain ⟨b, e2, _, _⟩ := DataW.trod_int Tryd.underlying3 h2
    simp only [List.cons.injEq, and_true] at e0 e1 e2
    subst e0; subst e1; subst e2
    exact ⟨(n, a, b), rfl⟩
set_option maxRecDepth 100000 in
theorem pk_wire (n : Nat) (cs : List Value) (x : DataW H × List MemPlace) (h : DataW.trod enc Tryd.prog W base sp held n 83 cs = some x) : ∃ o : W4, cs = [.int .i64 o.1, .int .i64 o.2.1, .int .i64 o.2.2.1, .int .i64 o.2.2.2] := by
  obtain ⟨y0, y1, y2, y3, n, _, hl, h0, h1, h2, h3⟩ := Joins.trod_struct4 Tryd.underlying83 h
  rw [pcWire] at hl
  match cs, hl with
  | [c0, c1, c2, c3], _ =>
    simp only [pcInt] at h0 h1 h2 h3
    simp at h0 h1 h2 h3
    obtain ⟨n, e0, _, _⟩ := DataW.trod_int Tryd.underlying3 h0
    obtain ⟨a, e1, _, _⟩ := DataW.trod_int Tryd.underlying3 h1
    obtain ⟨b, e2, _, _⟩ := DataW.trod_int Tryd.underlying3 h2
    obtain ⟨c, e3, _, _⟩ := DataW.trod_int Tryd.underlying3 h3
    simp only [List.cons.injEq, and_true] at e0 e1 e2 e3
    subst e0; subst e1; subst e2; subst e3
    exact ⟨(n, a, b, c), rfl⟩
theorem pk_ops (n : Nat) (cs : List Value) (x : DataW H × List MemPlace) (h : DataW.trod enc Tryd.prog W base sp held n 36 cs = some x) : ∃ l : List O3, ∃ u, cs = [u] ∧ Ops W u l := by
  obtain ⟨a, len, cap, rfl, hr⟩ := pk_slice (α := O3) Tryd.underlying36 pcOp (by decide) (fun cs o => cs = [.int .i64 o.1, .int .i64 o.2.1, .int .i64 o.2.2]) pk_op h
  rcases hr with rfl | ⟨b, off, rfl, _, hlt, l, rfl, hl⟩
  · exact ⟨[], _, rfl, Or.inl ⟨rfl, _, _, rfl⟩⟩
  · refine ⟨l, _, rfl, Or.inr ⟨b, off, cap, rfl, hlt, fun i o ho => ?_⟩⟩
    obtain ⟨us, _, rfl, hc⟩ := hl i o ho
    exact ⟨hc 0 (by omega), hc 1 (by omega), hc 2 (by omega)⟩
theorem pk_sps (n : Nat) (cs : List Value) (x : DataW H × List MemPlace) (h : DataW.trod enc Tryd.prog W base sp held n 23 cs = some x) : ∃ l : List S3, ∃ u, cs = [u] ∧ Sps W u l := by
  obtain ⟨a, len, cap, rfl, hr⟩ := pk_slice (α := S3) Tryd.underlying23 pcSpan (by decide) (fun cs o => cs = [.int .i64 o.1, .int .i64 o.2.1, .int .i64 o.2.2]) pk_span h
  rcases hr with rfl | ⟨b, off, rfl, hcap, hlt, l, rfl, hl⟩
  · exact ⟨[], _, rfl, Or.inl ⟨rfl, _, _, rfl⟩⟩
  · refine ⟨l, _, rfl, Or.inr ⟨b, off, cap, rfl, hcap, hlt, fun i o ho => ?_⟩⟩
    obtain ⟨us, _, rfl, hc⟩ := hl i o ho
    exact ⟨hc 0 (by omega), hc 1 (by omega), hc 2 (by omega)⟩
theorem pk_wrs (n : Nat) (cs : List Value) (x : DataW H × List MemPlace) (h : DataW.trod enc Tryd.prog W base sp held n 24 cs = some x) : ∃ l : List W4, ∃ u, cs = [u] ∧ Wrs W u l := by
  obtain ⟨a, len, cap, rfl, hr⟩ := pk_slice (α := W4) Tryd.underlying24 pcWire (by decide) (fun cs o => cs = [.int .i64 o.1, .int .i64 o.2.1, .int .i64 o.2.2.1, .int .i64 o.2.2.2]) pk_wire h
  rcases hr with rfl | ⟨b, off, rfl, hcap, hlt, l, rfl, hl⟩
  · exact ⟨[], _, rfl, Or.inl ⟨rfl, _, _, rfl⟩⟩
  · refine ⟨l, _, rfl, Or.inr ⟨b, off, cap, rfl, hcap, hlt, fun i o ho => ?_⟩⟩
    obtain ⟨us, _, rfl, hc⟩ := hl i o ho
    exact ⟨hc 0 (by omega), hc 1 (by omega), hc 2 (by omega), hc 3 (by omega)⟩
theorem pk_cds (n : Nat) (cs : List Value) (x : DataW H × List MemPlace) (h : DataW.trod enc Tryd.prog W base sp held n 22 cs = some x) : ∃ l : List (List O3), ∃ u, cs = [u] ∧ Cds W u l := by
  obtain ⟨a, len, cap, rfl, hr⟩ := pk_slice (α := List O3) Tryd.underlying22 pcOps (by decide) (fun cs l => ∃ u, cs = [u] ∧ Ops W u l) pk_ops h
  rcases hr with rfl | ⟨b, off, rfl, hcap, hlt, l, rfl, hl⟩
  · exact ⟨[], _, rfl, Or.inl ⟨rfl, _, _, rfl⟩⟩
  · refine ⟨l, _, rfl, Or.inr ⟨b, off, cap, rfl, hcap, hlt, fun i c hc => ?_⟩⟩
    obtain ⟨us, _, ⟨u, rfl, hu⟩, hc⟩ := hl i c hc
    have := hc 0 (by omega)
    exact ⟨u, by simpa using this, hu⟩
set_option maxRecDepth 100000 in
/-- A plan that came in. -/
theorem open_plan {b0 : Nat} {r : Reach} {v : Value} {d : DataW H} {p : List MemPlace} (hv : Value.okWide Tryd.prog W r b0 26 v)
    (h : DataW.Trod enc Tryd.prog W base sp held 26 v d p) : ∃ (vc vs vw : Value) (p : PD), v = plV vc p.ticks vs vw ∧ Pln W vc vs vw p := by
  obtain ⟨v0, v1, v2, v3, y0, y1, y2, y3, m, rfl, _, _, h0, h1, h2, h3⟩ := Joins.open_agg4 Tryd.underlying26 (by kernel_rfl) (by kernel_rfl) hv h
  obtain ⟨cs, u0, e0, g0⟩ := pk_cds _ _ _ h0
  obtain ⟨n, e1, _, _⟩ := DataW.trod_int Tryd.underlying3 h1
  obtain ⟨ss, u2, e2, g2⟩ := pk_sps _ _ _ h2
  obtain ⟨ws, u3, e3, g3⟩ := pk_wrs _ _ _ h3
  simp only [List.cons.injEq, and_true] at e0 e1 e2 e3
  subst e0; subst e1; subst e2; subst e3
  exact ⟨_, _, _, ⟨cs, n, ss, ws⟩, rfl, g0, g2, g3⟩
end
end Go.Proofs.YtfconbblnmbnpafDoor
namespace Go.Proofs.YtfconbblnmbnpafDoor
open Go.RowKit

theorem below_st8 {B : Nat} {w w' : World} (h : Below B w w') (b : Nat) (hb : B ≤ b) (x0 x1 x2 x3 x4 x5 x6 x7 : Value) : Below B w ((((((((w'.setCell ⟨b, 0, none⟩ x0).setCell ⟨b, 1, none⟩ x1).setCell ⟨b, 2, none⟩ x2).setCell ⟨b, 3, none⟩ x3).setCell ⟨b, 4, none⟩ x4).setCell ⟨b, 5, none⟩ x5).setCell ⟨b, 6, none⟩ x6).setCell ⟨b, 7, none⟩ x7) :=
  (((((((h.setCell (p := ⟨b, 0, none⟩) hb x0).setCell (p := ⟨b, 1, none⟩) hb x1).setCell (p := ⟨b, 2, none⟩) hb x2).setCell (p := ⟨b, 3, none⟩) hb x3).setCell (p := ⟨b, 4, none⟩) hb x4).setCell (p := ⟨b, 5, none⟩) hb x5).setCell (p := ⟨b, 6, none⟩) hb x6).setCell (p := ⟨b, 7, none⟩) hb x7
/-- A state is written into a new block. -/
theorem zst_set {w : World} {b : Nat} (h : w.heap[b]? = some (.cells #[.int .i64 0, .int .i64 0, .int .i64 0, .int .i64 0, .int .i64 0, .int .i64 0, .int .i64 0, .bool false] 39)) (s : St) : ((((((((w.setCell ⟨b, 0, none⟩ (.int .i64 s.p)).setCell ⟨b, 1, none⟩ (.int .i64 (s.c 0))).setCell ⟨b, 2, none⟩ (.int .i64 (s.c 1))).setCell ⟨b, 3, none⟩ (.int .i64 (s.c 2))).setCell ⟨b, 4, none⟩ (.int .i64 (s.c 3))).setCell ⟨b, 5, none⟩ (.int .i64 (s.c 4))).setCell ⟨b, 6, none⟩ (.int .i64 (s.c 5))).setCell ⟨b, 7, none⟩ (.bool s.f)).heap[b]? = some (.cells #[.int .i64 s.p, .int .i64 (s.c 0), .int .i64 (s.c 1), .int .i64 (s.c 2), .int .i64 (s.c 3), .int .i64 (s.c 4), .int .i64 (s.c 5), .bool s.f] 39) := by
  simp [World.setCell, Array.getElem?_modify, h]
theorem touch_st (w : World) (b : Nat) (x0 x1 x2 x3 x4 x5 x6 x7 : Value) : KTouch [b] w ((((((((w.setCell ⟨b, 2, none⟩ x0).setCell ⟨b, 3, none⟩ x1).setCell ⟨b, 4, none⟩ x2).setCell ⟨b, 5, none⟩ x3).setCell ⟨b, 6, none⟩ x4).setCell ⟨b, 7, none⟩ x5).setCell ⟨b, 8, none⟩ x6).setCell ⟨b, 9, none⟩ x7) :=
  have hm : b ∈ [b] := by simp
  (((((((KTouch.set w hm 2 x0).trans (KTouch.set _ hm 3 x1)).trans (KTouch.set _ hm 4 x2)).trans (KTouch.set _ hm 5 x3)).trans (KTouch.set _ hm 6 x4)).trans (KTouch.set _ hm 7 x5)).trans (KTouch.set _ hm 8 x6)).trans (KTouch.set _ hm 9 x7)
end Go.Proofs.YtfconbblnmbnpafDoor
namespace Go.Proofs.YtfconbblnmbnpafDoor
open Go.ChangeShapes Go.WideShapes Go.ChangeAt Go.WideElems Go.RowKit Go.Deep

set_option maxRecDepth 100000 in
theorem open_wire {H : Type} {enc : TypeId × Value → H} {W : World} {base b0 : Nat} {sp : Nat → Bool} {held : Bool} {r : Reach} {v : Value} {d : DataW H} {p : List MemPlace} (hv : Value.okWide Tryd.prog W r b0 83 v)
    (h : DataW.Trod enc Tryd.prog W base sp held 83 v d p) : ∃ f t k q : Int, v = wV f t k q := by
  obtain ⟨v0, v1, v2, v3, y0, y1, y2, y3, m, rfl, _, _, h0, h1, h2, h3⟩ := Joins.open_agg4 Tryd.underlying83 (by kernel_rfl) (by kernel_rfl) hv h
  obtain ⟨n, e0, _, _⟩ := DataW.trod_int Tryd.underlying3 h0
  obtain ⟨a, e1, _, _⟩ := DataW.trod_int Tryd.underlying3 h1
  obtain ⟨b, e2, _, _⟩ := DataW.trod_int Tryd.underlying3 h2
  obtain ⟨c, e3, _, _⟩ := DataW.trod_int Tryd.underlying3 h3
  simp only [List.cons.injEq, and_true] at e0 e1 e2 e3
  subst e0; subst e1; subst e2; subst e3
  exact ⟨n, a, b, c, rfl⟩
theorem spot_none {W : World} {a : Addr} {v : Value} (h : W.cell? a = some v) : a = ⟨a.block, a.off, none⟩ ∧ a.block < W.heap.size := by
  obtain ⟨b, o, s⟩ := a
  unfold World.cell? at h
  simp only at h
  cases hb : W.heap[b]? with
  | none => rw [hb] at h; cases h
  | some x =>
    rw [hb] at h
    refine ⟨?_, (Array.getElem?_eq_some_iff.1 hb).1⟩
    cases x <;> simp at h
    cases s with
    | none => rfl
    | some s => simp at h
set_option maxRecDepth 100000 in
theorem open_stp {H : Type} {enc : TypeId × Value → H} {W : World} {b0 : Nat} {r : Reach} {v : Value} {d : DataW H} {p : List MemPlace} (hv : Value.okWide Tryd.prog W r b0 43 v)
    (h : DataW.Trod enc Tryd.prog W 0 (fun _ => true) true 43 v d p) : ∃ l : List Int, Stp W v l := by
  obtain ⟨a0, len0, cap0, rfl⟩ := okWide_slice Tryd.underlying43 hv
  obtain ⟨fuel, hf⟩ := h
  rcases open_ints Tryd.underlying43 Tryd.underlying3 (by kernel_rfl) hf with ⟨hcs, _⟩ | ⟨a, len, cap, zs, hcs, _, hl, _, hz, _, hc, _⟩
  · simp [Value.cells] at hcs
    obtain ⟨rfl, rfl, rfl⟩ := hcs
    exact ⟨[], Or.inl ⟨rfl, _, _, rfl⟩⟩
  · simp [Value.cells] at hcs
    obtain ⟨rfl, rfl, rfl⟩ := hcs
    have hlz : len0 ≤ zs.length := by rw [hz]; simpa using hl
    by_cases h0 : len0 = 0
    · subst h0
      exact ⟨[], Or.inl ⟨rfl, _, _, rfl⟩⟩
    · have hz0 := hc 0 (by omega)
      rw [show a.add 0 = a from by simp [Addr.add]] at hz0
      obtain ⟨ha, hlt⟩ := spot_none hz0
      have hlen : (zs.take len0).length = len0 := by rw [List.length_take]; omega
      refine ⟨zs.take len0, Or.inr ⟨a.block, a.off, cap0, by rw [hlen, ← ha], hlt, fun i x hx => ?_⟩⟩
      have hi : i < len0 := by
        have := (List.getElem?_eq_some_iff.1 hx).1
        omega
      have h1 := hc i (by omega)
      rw [ha, Addr.add_lit] at h1
      rw [List.getElem?_take, if_pos hi] at hx
      rw [List.getD_eq_getElem?_getD, hx] at h1
      exact h1
end Go.Proofs.YtfconbblnmbnpafDoor
namespace Go.Proofs.YtfconbblnmbnpafDoor
open Go.RowKit

/-- The cells of wires, one behind the other. -/
def wrCells (l : List W4) : List Value := l.flatMap fun o => [.int .i64 o.1, .int .i64 o.2.1, .int .i64 o.2.2.1, .int .i64 o.2.2.2]
theorem wrCells_snoc (l : List W4) (o : W4) : wrCells (l ++ [o]) = wrCells l ++ [.int .i64 o.1, .int .i64 o.2.1, .int .i64 o.2.2.1, .int .i64 o.2.2.2] := by simp [wrCells]
theorem wrCells_len : ∀ (l : List W4), (wrCells l).length = l.length * 4
  | [] => rfl
  | x :: l => by
    have := wrCells_len l
    have e : wrCells (x :: l) = [.int .i64 x.1, .int .i64 x.2.1, .int .i64 x.2.2.1, .int .i64 x.2.2.2] ++ wrCells l := by simp [wrCells]
    rw [e, List.length_append, this]
    simp
    omega
theorem wrCells_one (l : List W4) : ∀ u ∈ wrCells l, u.oneCell' = true := by
  intro u hu
  simp only [wrCells, List.mem_flatMap] at hu
  obtain ⟨o, _, hu⟩ := hu
  simp at hu
  rcases hu with rfl | rfl | rfl | rfl <;> rfl
theorem wrCells_at : ∀ (l : List W4) (i : Nat) (o : W4), l[i]? = some o → (wrCells l)[i * 4]? = some (.int .i64 o.1) ∧ (wrCells l)[i * 4 + 1]? = some (.int .i64 o.2.1) ∧ (wrCells l)[i * 4 + 2]? = some (.int .i64 o.2.2.1) ∧ (wrCells l)[i * 4 + 3]? = some (.int .i64 o.2.2.2)
  | [], i, o, h => by simp at h
  | x :: l, 0, o, h => by
    simp at h
    subst h
    simp [wrCells]
  | x :: l, i + 1, o, h => by
    have := wrCells_at l i o (by simpa using h)
    have e : wrCells (x :: l) = [.int .i64 x.1, .int .i64 x.2.1, .int .i64 x.2.2.1, .int .i64 x.2.2.2] ++ wrCells l := by simp [wrCells]
    rw [e]
    refine ⟨?_, ?_, ?_, ?_⟩
    · rw [List.getElem?_append_right (by simp; omega)]
      simpa [show (i + 1) * 4 - 4 = i * 4 by omega] using this.1
    · rw [List.getElem?_append_right (by simp; omega)]
      simpa [show (i + 1) * 4 + 1 - 4 = i * 4 + 1 by omega] using this.2.1
    · rw [List.getElem?_append_right (by simp; omega)]
      simpa [show (i + 1) * 4 + 2 - 4 = i * 4 + 2 by omega] using this.2.2.1
    · rw [List.getElem?_append_right (by simp; omega)]
      simpa [show (i + 1) * 4 + 3 - 4 = i * 4 + 3 by omega] using this.2.2.2
theorem wrs_of_own {w : World} {base : Nat} {v : Value} {l : List W4} (h : w.ownsRow base 83 4 v l.length (wrCells l)) : Wrs w v l := by
  have hl := h.lt
  have hcs := @World.ownsRow.cells _ _ _ _ _ _ _ h
  rcases h.2 with ⟨rfl, h0⟩ | ⟨g, cap, cur, rfl, _, _, hcap, _⟩
  · exact Or.inl ⟨List.eq_nil_of_length_eq_zero h0, _, _, rfl⟩
  · have hat : ∀ j u, (wrCells l)[j]? = some u → w.cell? ⟨g, j, none⟩ = some u := fun j u hu => by
      have := hcs rfl j u hu
      unfold Addr.add at this
      split at this
      · rename_i h0; subst h0; exact this
      · simpa using this
    refine Or.inr ⟨g, 0, cap, rfl, hcap, (hl g rfl).2, fun i o ho => ?_⟩
    obtain ⟨h1, h2, h3, h4⟩ := wrCells_at l i o ho
    exact ⟨by simpa using hat _ _ h1, by simpa using hat _ _ h2, by simpa using hat _ _ h3, by simpa using hat _ _ h4⟩
theorem infoWr : (Tryd.prog.info? 83).map (fun i => (i.zero, i.size, i.bytes)) = some (some (.agg #[.int .i64 0, .int .i64 0, .int .i64 0, .int .i64 0]), 4, 32) := by kernel_rfl
theorem wr_new {w : World} {k : Nat} (hk : k = w.heap.size) (x y z u : Value) (t : TypeId) : ∀ j q, [x, y, z, u][j]? = some q → (w.alloc (.cells #[x, y, z, u] t)).cell? ((⟨k, 0, none⟩ : Addr).add j) = some q := by
  subst hk
  intro j q hj
  match j, hj with
  | 0, hj => simp at hj; subst hj; simp [Addr.add]
  | 1, hj => simp at hj; subst hj; simp [Addr.add]
  | 2, hj => simp at hj; subst hj; simp [Addr.add]
  | 3, hj => simp at hj; subst hj; simp [Addr.add]
theorem four_one (a b c d : Int) : ∀ u ∈ [Value.int .i64 a, .int .i64 b, .int .i64 c, .int .i64 d], u.oneCell' = true := by
  intro u hu
  simp at hu
  rcases hu with rfl | rfl | rfl | rfl <;> rfl
theorem own4_form {w : World} {base : Nat} {e : TypeId} {size : Nat} {v : Value} {n : Nat} {xs : List Value} (R : w.ownsRow base e size v n xs) : ∃ g cap, v = .slice g n cap := by
  rcases R.2 with ⟨h, h0⟩ | ⟨g, cap, cur, h, _⟩
  · exact ⟨_, _, by rw [h0]; exact h⟩
  · exact ⟨_, _, h⟩
end Go.Proofs.YtfconbblnmbnpafDoor
namespace Go.Proofs.YtfconbblnmbnpafDoor

/-- A wire that leads to a room, or comes from it. -/
def atR (r : Int) (l : LnD) : Bool := decide (l.w.1 = r) || decide (l.w.2.1 = r)
/-- What a room sees of a kernel's lines. -/
def seesK (k : KD) (r : Int) : List (List Int × Int) := (k.lines.filter (atR r)).map fun l => (l.xs, l.ls)
/-- A room's states ahead of each of n ticks, and behind the last one. -/
def statesK (p : PD) (n r : Nat) : List St := (List.range (n + 1)).map fun t => (kT p t).rooms.getD r stNew
theorem statesK_len (p : PD) (n r : Nat) : (statesK p n r).length = n + 1 := by simp [statesK]
theorem statesK_zero (p : PD) (r : Nat) : statesK p 0 r = [(newK p).rooms.getD r stNew] := by simp [statesK, kT]
theorem statesK_succ (p : PD) (n r : Nat) : statesK p (n + 1) r = statesK p n r ++ [(kT p (n + 1)).rooms.getD r stNew] := by
  unfold statesK
  rw [List.range_succ, List.map_append]
  rfl
theorem statesK_first (p : PD) (n r : Nat) : (statesK p n r)[0]? = some stNew := by
  have h : (newK p).rooms.getD r stNew = stNew := by
    unfold newK
    simp only [List.getD, List.getElem?_map]
    cases p.code[r]? <;> rfl
  rw [← h]
  simp [statesK, kT]
/-- What is wrong with a run. -/
def runE (p : PD) (n r : Int) : Int := if plchk p = 0 then (if r < 0 ∨ (p.code.length : Int) ≤ r ∨ n < 0 ∨ 2000 < n then 1 else 0) else plchk p
/-- Two states that look the same. -/
structure StSame (s t : St) : Prop where
  p : s.p = t.p
  c : ∀ i, i < 6 → s.c i = t.c i
  f : s.f = t.f
theorem StSame.refl (s : St) : StSame s s := ⟨rfl, fun _ _ => rfl, rfl⟩
theorem cells_same {o : O3} {c d : Nat → Int} {g : Int} {b : Bool} (h : ∀ i, i < 6 → c i = d i) (hA : o.2.1.toNat < 6) (hB : o.1 = 2 ∨ o.1 = 3 ∨ o.1 = 4 ∨ o.1 = 5 → o.2.2.toNat < 6) : ∀ i, i < 6 → cellsF o c g b i = cellsF o d g b i := fun i hi => by
  have hu : ∀ v, upd c o.2.1.toNat v i = upd d o.2.1.toNat v i := fun v => by
    unfold upd
    split
    · rfl
    · exact h i hi
  unfold cellsF
  split
  · exact hu _
  split
  · rename_i h2; rw [h _ (hB (by omega))]; exact hu _
  split
  · rename_i h3; rw [h _ hA, h _ (hB (by omega))]; exact hu _
  split
  · rename_i h4; rw [h _ hA, h _ (hB (by omega))]; exact hu _
  split
  · rename_i h5; rw [h _ hA, h _ (hB (by omega))]; exact hu _
  split
  · split
    · exact hu _
    · exact h i hi
  · exact h i hi
theorem step_same {o : O3} {s t : St} {n : Nat} {g : Int} {b : Bool} (h : StSame s t) (hA : o.2.1.toNat < 6) (hB : o.1 = 2 ∨ o.1 = 3 ∨ o.1 = 4 ∨ o.1 = 5 → o.2.2.toNat < 6) : StSame (stepF o s n g b) (stepF o t n g b) := by
  unfold stepF
  rw [← h.f]
  split
  · exact h
  · refine ⟨?_, cells_same h.c hA hB, rfl⟩
    show nextF o s n b = nextF o t n b
    unfold nextF
    rw [h.p, h.c _ hA]
theorem small_args {p : PD} {k : KD} {r : Nat} {c : List O3} {s : St} {o : O3} (h : Turn p k r c s o) : o.2.1.toNat < 6 ∧ (o.1 = 2 ∨ o.1 = 3 ∨ o.1 = 4 ∨ o.1 = 5 → o.2.2.toNat < 6) := by
  have hr := ok3_range h.ok
  have hb := (bA_le o.1).2
  refine ⟨by omega, fun hh => ?_⟩
  rcases hh with e | e | e | e <;> simp [e, bB] at hr <;> omega
/-- One turn of a room that sees the same. -/
theorem turn_same {p : PD} {k m : KD} {r : Nat} {c : List O3} {s t : St} {o : O3} (hk : Turn p k r c s o) (hm : Turn p m r c t o) (hs : StSame s t) (hl : o.1 = 8 ∨ o.1 = 9 → ∃ l, k.lines[o.2.2.toNat]? = some l ∧ m.lines[o.2.2.toNat]? = some l) (hrk : r < k.rooms.length) (hrm : r < m.rooms.length) :
    (turnK p k r).2 = (turnK p m r).2 ∧ ∃ s' t', (turnK p k r).1.rooms[r]? = some s' ∧ (turnK p m r).1.rooms[r]? = some t' ∧ StSame s' t' := by
  obtain ⟨hA, hB⟩ := small_args hk
  have hst : ∀ g b, StSame (stepF o s c.length g b) (stepF o t c.length g b) := fun g b => step_same hs hA hB
  cases hf : s.f with
  | true =>
    have hf' : t.f = true := by rw [← hs.f]; exact hf
    rw [turn_failed hk hf, turn_failed hm hf']
    exact ⟨by rw [hs.p], s, t, hk.hs, hm.hs, hs⟩
  | false =>
    have hf' : t.f = false := by rw [← hs.f]; exact hf
    by_cases h9 : o.1 = 9
    · obtain ⟨l, h1, h2⟩ := hl (Or.inr h9)
      cases hh : (headL l).2 with
      | true =>
        rw [turn_takes hk hf h9 h1 hh, turn_takes hm hf' h9 h2 hh]
        exact ⟨by rw [hs.p], _, _, List.getElem?_set_self hrk, List.getElem?_set_self hrm, hst _ _⟩
      | false =>
        rw [turn_waits hk hf h9 h1 hh, turn_waits hm hf' h9 h2 hh]
        exact ⟨by rw [hs.p], _, _, List.getElem?_set_self hrk, List.getElem?_set_self hrm, hst _ _⟩
    · by_cases h8 : o.1 = 8
      · obtain ⟨l, h1, h2⟩ := hl (Or.inl h8)
        rw [turn_sends hk hf h8 h1, turn_sends hm hf' h8 h2]
        exact ⟨by rw [hs.p], _, _, List.getElem?_set_self hrk, List.getElem?_set_self hrm, hst _ _⟩
      · rw [turn_else hk hf h8 h9, turn_else hm hf' h8 h9]
        exact ⟨by rw [hs.p], _, _, List.getElem?_set_self hrk, List.getElem?_set_self hrm, hst _ _⟩
/-- What is seen the same is the same line. -/
theorem sees_line : ∀ {ls ms : List LnD} {ws : List W4} {r : Int}, ls.length = ws.length → ms.length = ws.length → (∀ (i : Nat) l x, ls[i]? = some l → ws[i]? = some x → l.w = x) → (∀ (i : Nat) l x, ms[i]? = some l → ws[i]? = some x → l.w = x) →
    ((ls.filter (atR r)).map fun l => (l.xs, l.ls)) = ((ms.filter (atR r)).map fun l => (l.xs, l.ls)) → ∀ (i : Nat) x, ws[i]? = some x → x.1 = r ∨ x.2.1 = r → ls[i]? = ms[i]?
  | [], [], _, _, _, _, _, _, _, i, x, _, _ => by simp
  | [], _ :: _, ws, _, h1, h2, _, _, _, _, _, _, _ => by simp at h1 h2; omega
  | _ :: _, [], ws, _, h1, h2, _, _, _, _, _, _, _ => by simp at h1 h2; omega
  | l :: ls, m :: ms, [], _, h1, _, _, _, _, _, _, _, _ => by simp at h1
  | l :: ls, m :: ms, y :: ws, r, h1, h2, h3, h4, h5, i, x, hx, hr => by
    have e1 : l.w = y := h3 0 l y rfl rfl
    have e2 : m.w = y := h4 0 m y rfl rfl
    have ea : atR r m = atR r l := by unfold atR; rw [e1, e2]
    have rest : ((ls.filter (atR r)).map fun l => (l.xs, l.ls)) = ((ms.filter (atR r)).map fun l => (l.xs, l.ls)) ∧ (atR r l = true → l = m) := by
      cases hb : atR r l with
      | true =>
        rw [List.filter_cons_of_pos (by exact hb), List.filter_cons_of_pos (by rw [ea]; exact hb)] at h5
        simp only [List.map_cons, List.cons.injEq, Prod.mk.injEq] at h5
        refine ⟨h5.2, fun _ => ?_⟩
        obtain ⟨lw, lx, ll⟩ := l
        obtain ⟨mw, mx, ml⟩ := m
        simp only at e1 e2 h5
        rw [e1, e2, h5.1.1, h5.1.2]
      | false =>
        rw [List.filter_cons_of_neg (by rw [hb]; decide), List.filter_cons_of_neg (by rw [ea, hb]; decide)] at h5
        exact ⟨h5, fun h => by cases h⟩
    cases i with
    | zero =>
      simp only [List.getElem?_cons_zero, Option.some.injEq] at hx ⊢
      subst hx
      refine rest.2 ?_
      unfold atR
      rw [e1]
      rcases hr with hr | hr <;> simp [hr]
    | succ i =>
      simp only [List.getElem?_cons_succ] at hx ⊢
      exact sees_line (by simpa using h1) (by simpa using h2) (fun j l' x' hl hx => h3 (j + 1) l' x' (by simpa using hl) (by simpa using hx)) (fun j l' x' hl hx => h4 (j + 1) l' x' (by simpa using hl) (by simpa using hx)) rest.1 i x hx hr
/-- WHO SEES THE SAME DOES THE SAME: one tick. -/
theorem tick_same {p : PD} {k m : KD} (hp : plchk p = 0) (hk : KOk p k) (hm : KOk p m) (ht : k.time = m.time) {r : Nat} (hr : r < p.code.length) {s t : St} (hs : k.rooms[r]? = some s) (htt : m.rooms[r]? = some t) (hst : StSame s t) (hsee : seesK k r = seesK m r) :
    (tickK p p.spans k).2.2.1 = (tickK p p.spans m).2.2.1 ∧ ((tickK p p.spans k).2.2.1 = (r : Int) → (tickK p p.spans k).2 = (tickK p p.spans m).2 ∧ ∃ s' t', (tickK p p.spans k).1.rooms[r]? = some s' ∧ (tickK p p.spans m).1.rooms[r]? = some t' ∧ StSame s' t') := by
  have ew : whoK p k = whoK p m := by unfold whoK; rw [ht]
  refine ⟨by rw [(tick_told p k).2, (tick_told p m).2, ew], fun hw => ?_⟩
  rw [(tick_told p k).2] at hw
  have hwm : whoK p m = r := by rw [← ew]; exact hw
  have e1 : tickK p p.spans k = ((turnK p k r).1, k.time, (r : Int), (turnK p k r).2.1, (turnK p k r).2.2) := by
    unfold whoK at hw
    unfold tickK
    simp only [hw]
    rw [if_neg (by omega), Int.toNat_natCast]
  have e2 : tickK p p.spans m = ((turnK p m r).1, m.time, (r : Int), (turnK p m r).2.1, (turnK p m r).2.2) := by
    unfold whoK at hwm
    unfold tickK
    simp only [hwm]
    rw [if_neg (by omega), Int.toNat_natCast]
  obtain ⟨c, s0, o, tk⟩ := turn_of hp hk hr
  obtain rfl : s = s0 := Option.some.inj (hs.symm.trans tk.hs)
  have tm : Turn p m r c t o := ⟨tk.hc, htt, by rw [← hst.p]; exact tk.ho, tk.ck, hm.rooms r c t tk.hc htt, tk.ok⟩
  have hl : o.1 = 8 ∨ o.1 = 9 → ∃ l, k.lines[o.2.2.toNat]? = some l ∧ m.lines[o.2.2.toNat]? = some l := fun ho => by
    have hx : ∃ x, p.wires[o.2.2.toNat]? = some x ∧ (x.1 = (r : Int) ∨ x.2.1 = (r : Int)) := by
      have := op_wire hp tk.hc (List.mem_of_getElem? tk.ho)
      rcases ho with h8 | h9
      · obtain ⟨x, h1, h2⟩ := this.1 h8
        exact ⟨x, h1, Or.inl h2⟩
      · obtain ⟨x, h1, h2⟩ := this.2 h9
        exact ⟨x, h1, Or.inr h2⟩
    obtain ⟨x, hx1, hx2⟩ := hx
    have hlt : o.2.2.toNat < k.lines.length := by rw [hk.ll]; exact (List.getElem?_eq_some_iff.1 hx1).1
    have hl1 : k.lines[o.2.2.toNat]? = some k.lines[o.2.2.toNat] := List.getElem?_eq_getElem hlt
    have := sees_line hk.ll hm.ll (fun i l x h1 h2 => (hk.lines i l x h1 h2).w) (fun i l x h1 h2 => (hm.lines i l x h1 h2).w) hsee _ x hx1 hx2
    exact ⟨_, hl1, by rw [← this]; exact hl1⟩
  have hrl : r < k.rooms.length := by rw [hk.rl]; exact hr
  have hrm : r < m.rooms.length := by rw [hm.rl]; exact hr
  obtain ⟨q1, q2⟩ := turn_same tk tm hst hl hrl hrm
  rw [e1, e2]
  refine ⟨?_, q2⟩
  rw [ht, q1]
end Go.Proofs.YtfconbblnmbnpafDoor
namespace Go.Proofs.YtfconbblnmbnpafDoor

/-- Code that rests. -/
def restC : List O3 := [(10, 0, 0)]
/-- Codes of which all but some rest. -/
def purgeC (R : Nat → Bool) : Nat → List (List O3) → List (List O3)
  | _, [] => []
  | i, c :: l => (if R i = true then c else restC) :: purgeC R (i + 1) l
def purgeP (p : PD) (R : Nat → Bool) : PD := ⟨purgeC R 0 p.code, p.ticks, p.spans, p.wires⟩
theorem purgeC_len (R : Nat → Bool) : ∀ (i : Nat) (l : List (List O3)), (purgeC R i l).length = l.length
  | _, [] => rfl
  | i, c :: l => by simp [purgeC, purgeC_len R (i + 1) l]
theorem purgeC_at (R : Nat → Bool) : ∀ (i : Nat) (l : List (List O3)) (j : Nat), (purgeC R i l)[j]? = (l[j]?).map fun c => if R (i + j) = true then c else restC
  | _, [], j => by simp [purgeC]
  | i, c :: l, 0 => by simp [purgeC]
  | i, c :: l, j + 1 => by
    simp only [purgeC, List.getElem?_cons_succ]
    rw [purgeC_at R (i + 1) l j, show i + 1 + j = i + (j + 1) by omega]
theorem rest_chk : (chk restC).2 = 0 := by decide +kernel
theorem rest_ports (ws : List W4) (i : Nat) : portsB ws i restC = false := by
  have h8 : wiresB 8 restC = [] := by decide +kernel
  have h9 : wiresB 9 restC = [] := by decide +kernel
  unfold portsB
  rw [h8, h9]
  rfl
theorem purge_codes (R : Nat → Bool) : ∀ (i : Nat) (l : List (List O3)), codesE l = 0 → codesE (purgeC R i l) = 0
  | _, [], _ => rfl
  | i, c :: l, h => by
    unfold codesE at h
    have hc : (chk c).2 = 0 ∧ codesE l = 0 := by
      split at h
      · rename_i h1
        exact ⟨h1, h⟩
      · rename_i h1
        exact absurd h h1
    have hq : (chk (if R i = true then c else restC)).2 = 0 := by
      split
      · exact hc.1
      · exact rest_chk
    show codesE ((if R i = true then c else restC) :: purgeC R (i + 1) l) = 0
    unfold codesE
    rw [if_pos hq]
    exact purge_codes R (i + 1) l hc.2
theorem purge_ports (R : Nat → Bool) (ws : List W4) : ∀ (i : Nat) (l : List (List O3)), portsAny ws i l = false → portsAny ws i (purgeC R i l) = false
  | _, [], _ => rfl
  | i, c :: l, h => by
    rw [portsAny, Bool.or_eq_false_iff] at h
    show portsAny ws i ((if R i = true then c else restC) :: purgeC R (i + 1) l) = false
    rw [portsAny, Bool.or_eq_false_iff]
    refine ⟨?_, purge_ports R ws (i + 1) l h.2⟩
    split
    · exact h.1
    · exact rest_ports ws i
/-- A plan that is right is right without those. -/
theorem purge_right {p : PD} (R : Nat → Bool) (h : plchk p = 0) : plchk (purgeP p R) = 0 := by
  obtain ⟨h1, h2, h3, h4, h5, h6, h7, h8⟩ := plchk_zero h
  unfold plchk purgeP
  simp only [purgeC_len]
  rw [if_neg (by omega), if_neg h2, if_neg (by simpa using h3), if_neg (by simpa using h4), if_neg (by rw [h5]; decide), if_neg (by rw [h6]; decide), if_neg (by simpa using purge_codes R 0 _ h7), if_neg (by rw [purge_ports R _ 0 _ h8]; decide)]
/-- Who leads to one of them is one of them. -/
def ClosedR (ws : List W4) (R : Nat → Bool) : Prop := ∀ x ∈ ws, ∀ a b : Nat, x.1 = (a : Int) → x.2.1 = (b : Int) → R b = true → R a = true
theorem way_closed (ws : List W4) (r : Nat) (hw : ∀ x ∈ ws, ∀ b : Nat, x.2.1 = (b : Int) → b < 5) : ClosedR ws (fun i => way ws i r) := fun x hx a b ha hb hr => by
  have h1 : way ws a b = true := pm_edge _ 5 a b (by
    unfold edge
    rw [Bool.or_eq_true, List.any_eq_true]
    exact Or.inr ⟨x, hx, by simp [ha, hb]⟩)
  exact way_trans ws (hw x hx b hb) h1 hr
/-- Two kernels that are the same for some rooms, and the wires that lead to them. -/
structure Sim (ws : List W4) (R : Nat → Bool) (k m : KD) : Prop where
  time : k.time = m.time
  rooms : ∀ i, R i = true → k.rooms[i]? = m.rooms[i]?
  lines : ∀ (i : Nat) x (b : Nat), ws[i]? = some x → x.2.1 = (b : Int) → R b = true → k.lines[i]? = m.lines[i]?
theorem sim_new (p : PD) (R : Nat → Bool) : Sim p.wires R (newK p) (newK (purgeP p R)) := by
  refine ⟨rfl, fun i _ => ?_, fun i x b _ _ _ => rfl⟩
  simp only [newK, purgeP, List.getElem?_map, purgeC_at]
  cases p.code[i]? <;> rfl
/-- A room that is one of them does its turn alike. -/
theorem turn_sim {p q : PD} {R : Nat → Bool} {k m : KD} {r : Nat} {c : List O3} {s : St} {o : O3} (hp : plchk p = 0) (hk : KOk p k) (hm : KOk q m) (hqw : q.wires = p.wires) (tk : Turn p k r c s o) (tm : Turn q m r c s o) (hr : R r = true) (h : Sim p.wires R k m) : Sim p.wires R (turnK p k r).1 (turnK q m r).1 := by
  have hrk : r < k.rooms.length := (List.getElem?_eq_some_iff.1 tk.hs).1
  have hrm : r < m.rooms.length := (List.getElem?_eq_some_iff.1 tm.hs).1
  have ht : k.time + 1 = m.time + 1 := by rw [h.time]
  have hrooms : ∀ (s' : St) i, R i = true → (k.rooms.set r s')[i]? = (m.rooms.set r s')[i]? := fun s' i hi => by
    by_cases hir : r = i
    · subst hir
      rw [List.getElem?_set_self hrk, List.getElem?_set_self hrm]
    · rw [List.getElem?_set_ne hir, List.getElem?_set_ne hir]
      exact h.rooms i hi
  have hop := op_wire hp tk.hc (List.mem_of_getElem? tk.ho)
  have hset : ∀ (z : Nat) (l : LnD) (i : Nat), k.lines[z]? ≠ none → m.lines[z]? ≠ none → k.lines[i]? = m.lines[i]? → (k.lines.set z l)[i]? = (m.lines.set z l)[i]? := fun z l i h1 h2 h3 => by
    by_cases hzi : z = i
    · subst hzi
      have hz1 : z < k.lines.length := by
        rcases Nat.lt_or_ge z k.lines.length with h4 | h4
        · exact h4
        · exact absurd (List.getElem?_eq_none h4) h1
      have hz2 : z < m.lines.length := by
        rcases Nat.lt_or_ge z m.lines.length with h4 | h4
        · exact h4
        · exact absurd (List.getElem?_eq_none h4) h2
      rw [List.getElem?_set_self hz1, List.getElem?_set_self hz2]
    · rw [List.getElem?_set_ne hzi, List.getElem?_set_ne hzi]
      exact h3
  cases hf : s.f with
  | true =>
    rw [turn_failed tk hf, turn_failed tm hf]
    exact ⟨ht, h.rooms, h.lines⟩
  | false =>
    by_cases h9 : o.1 = 9
    · obtain ⟨x, hx, hxr⟩ := hop.2 h9
      have hlt : o.2.2.toNat < k.lines.length := by rw [hk.ll]; exact (List.getElem?_eq_some_iff.1 hx).1
      have hl1 : k.lines[o.2.2.toNat]? = some k.lines[o.2.2.toNat] := List.getElem?_eq_getElem hlt
      have hl2 : m.lines[o.2.2.toNat]? = some k.lines[o.2.2.toNat] := by rw [← h.lines _ x r hx hxr hr]; exact hl1
      generalize k.lines[o.2.2.toNat] = l at hl1 hl2
      cases hh : (headL l).2 with
      | true =>
        rw [turn_takes tk hf h9 hl1 hh, turn_takes tm hf h9 hl2 hh]
        exact ⟨ht, hrooms _, fun i y b hy hb hR => hset _ _ i (by rw [hl1]; simp) (by rw [hl2]; simp) (h.lines i y b hy hb hR)⟩
      | false =>
        rw [turn_waits tk hf h9 hl1 hh, turn_waits tm hf h9 hl2 hh]
        exact ⟨ht, hrooms _, h.lines⟩
    · by_cases h8 : o.1 = 8
      · obtain ⟨x, hx, hxr⟩ := hop.1 h8
        have hlt : o.2.2.toNat < k.lines.length := by rw [hk.ll]; exact (List.getElem?_eq_some_iff.1 hx).1
        have hlt2 : o.2.2.toNat < m.lines.length := by rw [hm.ll, hqw]; exact (List.getElem?_eq_some_iff.1 hx).1
        have hl1 : k.lines[o.2.2.toNat]? = some k.lines[o.2.2.toNat] := List.getElem?_eq_getElem hlt
        have hl2 : m.lines[o.2.2.toNat]? = some m.lines[o.2.2.toNat] := List.getElem?_eq_getElem hlt2
        rw [turn_sends tk hf h8 hl1, turn_sends tm hf h8 hl2]
        refine ⟨ht, hrooms _, fun i y b hy hb hR => ?_⟩
        by_cases hzi : o.2.2.toNat = i
        · subst hzi
          have he := h.lines _ y b hy hb hR
          rw [hl1, hl2] at he
          rw [Option.some.inj he]
          rw [List.getElem?_set_self hlt, List.getElem?_set_self hlt2]
        · show (k.lines.set _ _)[i]? = (m.lines.set _ _)[i]?
          rw [List.getElem?_set_ne hzi, List.getElem?_set_ne hzi]
          exact h.lines i y b hy hb hR
      · rw [turn_else tk hf h8 h9, turn_else tm hf h8 h9]
        exact ⟨ht, hrooms _, h.lines⟩
/-- WHO CANNOT TELL DOES NOT MATTER: one tick. -/
theorem sim_tick {p : PD} {R : Nat → Bool} {k m : KD} (hp : plchk p = 0) (hk : KOk p k) (hm : KOk (purgeP p R) m) (hc : ClosedR p.wires R) (hw0 : ∀ x ∈ p.wires, 0 ≤ x.1) (h : Sim p.wires R k m) : Sim p.wires R (tickK p p.spans k).1 (tickK (purgeP p R) (purgeP p R).spans m).1 := by
  have hq := purge_right R hp
  have ew : whoK (purgeP p R) m = whoK p k := by
    unfold whoK purgeP
    rw [h.time]
  have htime : (tickK p p.spans k).1.time = (tickK (purgeP p R) (purgeP p R).spans m).1.time := by rw [tick_time, tick_time, h.time]
  by_cases hneg : whoK p k < 0
  · have e1 : tickK p p.spans k = (⟨k.rooms, k.lines, k.time + 1⟩, k.time, whoK p k, 0, 0) := by
      unfold whoK at hneg ⊢
      unfold tickK
      simp only
      rw [if_pos hneg]
    have e2 : (tickK (purgeP p R) (purgeP p R).spans m).1 = ⟨m.rooms, m.lines, m.time + 1⟩ := by
      have hneg2 : whoK (purgeP p R) m < 0 := by rw [ew]; exact hneg
      unfold whoK at hneg2
      unfold tickK
      simp only
      rw [if_pos hneg2]
    rw [e1, e2]
    exact ⟨by rw [h.time], h.rooms, h.lines⟩
  · obtain ⟨rn, hrn⟩ : ∃ n : Nat, whoK p k = n := ⟨(whoK p k).toNat, by omega⟩
    have hrl : rn < p.code.length := by
      have := (who_room hp (k.time % p.ticks)).2
      unfold whoK at hrn
      rw [hrn] at this
      simpa using this (by omega)
    have hrl2 : rn < (purgeP p R).code.length := by
      show rn < (purgeC R 0 p.code).length
      rw [purgeC_len]
      exact hrl
    cases hR : R rn with
    | false =>
      refine ⟨htime, fun i hi => ?_, fun i x b hx hb hRb => ?_⟩
      · have hne : i ≠ rn := fun e => by rw [e, hR] at hi; cases hi
        rw [tick_room (p := p) (k := k) (r := i) (by rw [hrn]; omega), tick_room (p := purgeP p R) (k := m) (r := i) (by rw [ew, hrn]; omega)]
        exact h.rooms i hi
      · obtain ⟨a, ha⟩ : ∃ n : Nat, x.1 = n := ⟨x.1.toNat, by have := hw0 x (List.mem_of_getElem? hx); omega⟩
        have hRa := hc x (List.mem_of_getElem? hx) a b ha hb hRb
        have hne1 : a ≠ rn := fun e => by rw [e, hR] at hRa; cases hRa
        have hne2 : b ≠ rn := fun e => by rw [e, hR] at hRb; cases hRb
        rw [tick_line hp hk hx (by rw [ha, hrn]; omega) (by rw [hb, hrn]; omega), tick_line hq hm (show (purgeP p R).wires[i]? = some x from hx) (by rw [ha, ew, hrn]; omega) (by rw [hb, ew, hrn]; omega)]
        exact h.lines i x b hx hb hRb
    | true =>
      have e1 : (tickK p p.spans k).1 = (turnK p k rn).1 := by
        unfold whoK at hrn
        unfold tickK
        simp only [hrn]
        rw [if_neg (by omega), Int.toNat_natCast]
      have e2 : (tickK (purgeP p R) (purgeP p R).spans m).1 = (turnK (purgeP p R) m rn).1 := by
        have hrn2 : whoK (purgeP p R) m = rn := by rw [ew]; exact hrn
        unfold whoK at hrn2
        unfold tickK
        simp only [hrn2]
        rw [if_neg (by omega), Int.toNat_natCast]
      rw [e1, e2]
      obtain ⟨c, s, o, tk⟩ := turn_of hp hk hrl
      have hs2 : m.rooms[rn]? = some s := by rw [← h.rooms rn hR]; exact tk.hs
      have hc2 : (purgeP p R).code[rn]? = some c := by
        show (purgeC R 0 p.code)[rn]? = some c
        rw [purgeC_at, tk.hc, Nat.zero_add]
        simp [hR]
      have tm : Turn (purgeP p R) m rn c s o := ⟨hc2, hs2, tk.ho, tk.ck, tk.st, tk.ok⟩
      exact turn_sim hp hk hm rfl tk tm hR h
/-- .. all along. -/
theorem sim_all {p : PD} {R : Nat → Bool} (hp : plchk p = 0) (hc : ClosedR p.wires R) (hw0 : ∀ x ∈ p.wires, 0 ≤ x.1) : ∀ t, Sim p.wires R (kT p t) (kT (purgeP p R) t)
  | 0 => sim_new p R
  | t + 1 => sim_tick hp (kT_ok hp t) (kT_ok (purge_right R hp) t) hc hw0 (sim_all hp hc hw0 t)
theorem purge_states {p : PD} {r : Nat} (hp : plchk p = 0) (n : Nat) : statesK (purgeP p (fun i => way p.wires i r)) n r = statesK p n r := by
  have hrange : ∀ x ∈ p.wires, 0 ≤ x.1 ∧ x.1 < 5 ∧ 0 ≤ x.2.1 ∧ x.2.1 < 5 := fun x hx => by
    have h1 := (wschk_ok (plchk_zero hp).2.2.2.1).2 x hx
    unfold w4chk wchk at h1
    split at h1
    · rename_i h2
      omega
    · cases h1
  have h := sim_all hp (way_closed p.wires r (fun x hx b hb => by have := hrange x hx; omega)) (fun x hx => (hrange x hx).1)
  unfold statesK
  apply List.map_congr_left
  intro t _
  have := (h t).rooms r (way_self _ _)
  rw [List.getD, List.getD, this]
end Go.Proofs.YtfconbblnmbnpafDoor
namespace Go.Proofs.YtfconbblnmbnpafDoor

/-- A kernel, and how often each room was helped. -/
structure CD where
  k : KD
  ts : List Int
/-- What is wrong with a plan and its rules. -/
def ruleOut (n : Int) : Bool := decide (n < 0) || decide (2 < n)
def carE (p : PD) (what : List Int) (most : Int) : Int :=
  if plchk p = 0 then (if what.length = p.code.length then (if what.any ruleOut = true then 1 else if most < 0 ∨ 100 < most then 1 else 0) else 3) else plchk p
theorem carE_zero {p : PD} {what : List Int} {most : Int} (h : carE p what most = 0) : plchk p = 0 ∧ what.length = p.code.length ∧ (∀ n ∈ what, 0 ≤ n ∧ n ≤ 2) ∧ 0 ≤ most ∧ most ≤ 100 := by
  unfold carE at h
  split at h
  · rename_i h1
    split at h
    · rename_i h2
      split at h
      · omega
      · rename_i h3
        split at h
        · omega
        · refine ⟨h1, h2, fun n hn => ?_, by omega, by omega⟩
          have h3' : what.any ruleOut = false := by simpa using h3
          have := any_of_all h3' hn
          unfold ruleOut at this
          simp only [Bool.or_eq_false_iff, decide_eq_false_iff_not] at this
          omega
    · omega
  · rename_i h1
    exact absurd h h1
def newC (p : PD) : CD := ⟨newK p, p.code.map fun _ => 0⟩
/-- Is a room helped? -/
def caresB (what : List Int) (most : Int) (d : CD) (r : Nat) : Bool := (d.k.rooms.getD r stNew).f && (decide (0 < what.getD r 0) && decide (d.ts.getD r 0 < most))
/-- A room that is helped. -/
def helpS (p : PD) (what : List Int) (r : Nat) (s : St) : St := if what.getD r 0 = 1 then stNew else ⟨if s.p + 1 = ((p.code.getD r []).length : Int) then 0 else s.p + 1, s.c, false⟩
def helpC (p : PD) (what : List Int) (most : Int) (d : CD) : CD :=
  if 0 ≤ whoK p d.k ∧ caresB what most d (whoK p d.k).toNat = true then ⟨⟨d.k.rooms.set (whoK p d.k).toNat (helpS p what (whoK p d.k).toNat (d.k.rooms.getD (whoK p d.k).toNat stNew)), d.k.lines, d.k.time⟩, d.ts.set (whoK p d.k).toNat (d.ts.getD (whoK p d.k).toNat 0 + 1)⟩ else d
/-- A tick; what is told of it is the kernel's. -/
def tickC (p : PD) (what : List Int) (most : Int) (d : CD) : CD := ⟨(tickK p p.spans (helpC p what most d).k).1, (helpC p what most d).ts⟩
def evC (p : PD) (what : List Int) (most : Int) (d : CD) : Int × Int × Int × Int := (tickK p p.spans (helpC p what most d).k).2
structure COk (p : PD) (what : List Int) (most : Int) (d : CD) : Prop where
  k : KOk p d.k
  tl : d.ts.length = p.code.length
  ts : ∀ (i : Nat) t, d.ts[i]? = some t → 0 ≤ t ∧ t ≤ most ∧ (what.getD i 0 ≤ 0 → t = 0)
theorem help_time (p : PD) (what : List Int) (most : Int) (d : CD) : (helpC p what most d).k.time = d.k.time := by
  unfold helpC
  split <;> rfl
theorem help_lines (p : PD) (what : List Int) (most : Int) (d : CD) : (helpC p what most d).k.lines = d.k.lines := by
  unfold helpC
  split <;> rfl
theorem help_who (p : PD) (what : List Int) (most : Int) (d : CD) : whoK p (helpC p what most d).k = whoK p d.k := by
  unfold whoK
  rw [help_time]
theorem help_other (p : PD) (what : List Int) (most : Int) (d : CD) {r : Nat} (hr : (r : Int) ≠ whoK p d.k) : (helpC p what most d).k.rooms[r]? = d.k.rooms[r]? ∧ (helpC p what most d).ts[r]? = d.ts[r]? := by
  unfold helpC
  split
  · rename_i h
    exact ⟨List.getElem?_set_ne (by omega), List.getElem?_set_ne (by omega)⟩
  · exact ⟨rfl, rfl⟩
theorem help_no {p : PD} {what : List Int} {most : Int} {d : CD} (h : ¬ (0 ≤ whoK p d.k ∧ caresB what most d (whoK p d.k).toNat = true)) : helpC p what most d = d := by
  unfold helpC
  rw [if_neg h]
theorem help_yes {p : PD} {what : List Int} {most : Int} {d : CD} {rn : Nat} {s : St} {t : Int} (hr : whoK p d.k = rn) (hs : d.k.rooms[rn]? = some s) (ht : d.ts[rn]? = some t) (hc : caresB what most d rn = true) : helpC p what most d = ⟨⟨d.k.rooms.set rn (helpS p what rn s), d.k.lines, d.k.time⟩, d.ts.set rn (t + 1)⟩ := by
  unfold helpC
  rw [hr, Int.toNat_natCast, if_pos ⟨by omega, hc⟩]
  simp only [List.getD, hs, ht, Option.getD_some]
theorem newC_ok {p : PD} {what : List Int} {most : Int} (h : carE p what most = 0) : COk p what most (newC p) := by
  obtain ⟨h1, h2, h3, h4, h5⟩ := carE_zero h
  refine ⟨new_ok h1, by simp [newC], fun i t ht => ?_⟩
  unfold newC at ht
  simp only [List.getElem?_map] at ht
  obtain ⟨_, _, rfl⟩ := Option.map_eq_some_iff.1 ht
  exact ⟨Int.le_refl _, h4, fun _ => rfl⟩
theorem helpC_ok {p : PD} {what : List Int} {most : Int} {d : CD} (hp : plchk p = 0) (h : COk p what most d) : COk p what most (helpC p what most d) := by
  unfold helpC
  split
  · rename_i hc
    obtain ⟨hw, hc⟩ := hc
    unfold caresB at hc
    simp only [Bool.and_eq_true, decide_eq_true_eq] at hc
    obtain ⟨hf, hwt, hts⟩ := hc
    obtain ⟨rn, hrn⟩ : ∃ n : Nat, whoK p d.k = n := ⟨(whoK p d.k).toNat, by omega⟩
    rw [hrn, Int.toNat_natCast] at hf hwt hts ⊢
    have hlt : rn < p.code.length := by
      have := (who_room hp (d.k.time % p.ticks)).2
      unfold whoK at hrn
      rw [hrn] at this
      simpa using this (by omega)
    have hrl : rn < d.k.rooms.length := by rw [h.k.rl]; exact hlt
    have htl : rn < d.ts.length := by rw [h.tl]; exact hlt
    refine ⟨⟨by simp [h.k.rl], h.k.ll, fun i c s hi hs => ?_, h.k.lines, h.k.lost, h.k.time⟩, by simp [h.tl], fun i t ht => ?_⟩
    · by_cases hir : rn = i
      · subst hir
        simp only at hs
        rw [List.getElem?_set_self hrl] at hs
        obtain rfl := Option.some.inj hs
        have hs0 : d.k.rooms[rn]? = some (d.k.rooms.getD rn stNew) := by simp [List.getD, hrl]
        have hst := stOk_iff.1 (h.k.rooms rn c _ hi hs0)
        have hce : p.code.getD rn [] = c := by simp [List.getD, hi]
        unfold helpS
        rw [stOk_iff]
        split
        · refine ⟨Int.le_refl _, ?_, fun i _ => ⟨Int.le_refl _, by simp [stNew]⟩⟩
          show (0 : Int) < _
          omega
        · rw [hce]
          by_cases h1 : (d.k.rooms.getD rn stNew).p + 1 = (c.length : Int)
          · rw [if_pos h1]
            exact ⟨Int.le_refl _, by show (0 : Int) < _; omega, hst.2.2⟩
          · rw [if_neg h1]
            exact ⟨by show 0 ≤ (d.k.rooms.getD rn stNew).p + 1; omega, by show (d.k.rooms.getD rn stNew).p + 1 < _; omega, hst.2.2⟩
      · simp only at hs
        rw [List.getElem?_set_ne hir] at hs
        exact h.k.rooms i c s hi hs
    · by_cases hir : rn = i
      · subst hir
        simp only at ht
        rw [List.getElem?_set_self htl] at ht
        obtain rfl := Option.some.inj ht
        have h0 := h.ts rn d.ts[rn] (List.getElem?_eq_getElem htl)
        have he : d.ts.getD rn 0 = d.ts[rn] := by simp [List.getD, htl]
        rw [he] at hts ⊢
        exact ⟨by omega, by omega, fun hh => by omega⟩
      · simp only at ht
        rw [List.getElem?_set_ne hir] at ht
        exact h.ts i t ht
  · exact h
theorem tickC_ok {p : PD} {what : List Int} {most : Int} {d : CD} (hp : plchk p = 0) (h : COk p what most d) : COk p what most (tickC p what most d) := by
  have h' := helpC_ok hp h
  exact ⟨tick_ok hp h'.k, h'.tl, h'.ts⟩
/-- No room has failed. -/
def NoneF (k : KD) : Prop := ∀ (i : Nat) s, k.rooms[i]? = some s → s.f = false
theorem none_new (p : PD) : NoneF (newK p) := fun i s h => by
  unfold newK at h
  simp only [List.getElem?_map] at h
  obtain ⟨_, _, rfl⟩ := Option.map_eq_some_iff.1 h
  rfl
/-- Where none failed none is helped. -/
theorem none_help {p : PD} {what : List Int} {most : Int} {d : CD} (h : NoneF d.k) : helpC p what most d = d := by
  unfold helpC
  split
  · rename_i hc
    obtain ⟨_, hc⟩ := hc
    unfold caresB at hc
    simp only [Bool.and_eq_true] at hc
    obtain ⟨hf, _⟩ := hc
    generalize (whoK p d.k).toNat = r at hf
    cases hr : d.k.rooms[r]? with
    | none => rw [List.getD, hr] at hf; cases hf
    | some s =>
      rw [List.getD, hr] at hf
      have := h r s hr
      simp only [Option.getD_some] at hf
      rw [this] at hf
      cases hf
  · rfl
/-- Who fails at a tick is told. -/
theorem none_tick {p : PD} {k : KD} (hp : plchk p = 0) (hk : KOk p k) (h : NoneF k) (h4 : (tickK p p.spans k).2.2.2.2 ≠ 4) : NoneF (tickK p p.spans k).1 := by
  by_cases hneg : whoK p k < 0
  · have e1 : (tickK p p.spans k).1 = ⟨k.rooms, k.lines, k.time + 1⟩ := by
      unfold whoK at hneg
      unfold tickK
      simp only
      rw [if_pos hneg]
    rw [e1]
    exact h
  · obtain ⟨rn, hrn⟩ : ∃ n : Nat, whoK p k = n := ⟨(whoK p k).toNat, by omega⟩
    have hrl : rn < p.code.length := by
      have := (who_room hp (k.time % p.ticks)).2
      unfold whoK at hrn
      rw [hrn] at this
      simpa using this (by omega)
    have e1 : tickK p p.spans k = ((turnK p k rn).1, k.time, (rn : Int), (turnK p k rn).2.1, (turnK p k rn).2.2) := by
      unfold whoK at hrn
      unfold tickK
      simp only [hrn]
      rw [if_neg (by omega), Int.toNat_natCast]
    rw [e1] at h4 ⊢
    obtain ⟨c, s, o, tk⟩ := turn_of hp hk hrl
    obtain ⟨a1, a2, a3⟩ := tk.at
    have hf := h rn s tk.hs
    intro i s' hs'
    by_cases hir : rn = i
    · subst hir
      have hroom : (turnK p k rn).1.rooms = k.rooms.set rn (stepF o s c.length (gotK k o s).1 (gotK k o s).2) := by
        unfold turnK
        simp only [a1, a2, a3]
      simp only [hroom] at hs'
      rw [List.getElem?_set_self (List.getElem?_eq_some_iff.1 tk.hs).1] at hs'
      obtain rfl := Option.some.inj hs'
      unfold stepF
      rw [if_neg (by rw [hf]; decide)]
      show decide (o.1 = 11) = false
      apply decide_eq_false
      intro h11
      apply h4
      have := turn_else tk hf (by omega) (by omega)
      simp only [this, h11, if_true]
    · have := tick_room (p := p) (k := k) (r := i) (by rw [hrn]; omega)
      rw [e1] at this
      simp only at this hs'
      rw [this] at hs'
      exact h i s' hs'
/-- Two kernels with rules that are the same for some rooms, and the wires that lead to them. -/
structure SimC (ws : List W4) (R : Nat → Bool) (d e : CD) : Prop where
  k : Sim ws R d.k e.k
  ts : ∀ i, R i = true → d.ts[i]? = e.ts[i]?
theorem simC_new (p : PD) (R : Nat → Bool) : SimC p.wires R (newC p) (newC (purgeP p R)) := by
  refine ⟨sim_new p R, fun i _ => ?_⟩
  simp only [newC, purgeP, List.getElem?_map, purgeC_at]
  cases p.code[i]? <;> rfl
theorem simC_help {p : PD} {R : Nat → Bool} {what : List Int} {most : Int} {d e : CD} (hd : COk p what most d) (he : COk (purgeP p R) what most e) (hp : plchk p = 0) (h : SimC p.wires R d e) : SimC p.wires R (helpC p what most d) (helpC (purgeP p R) what most e) := by
  have ew : whoK (purgeP p R) e.k = whoK p d.k := by
    unfold whoK purgeP
    rw [h.k.time]
  refine ⟨⟨by rw [help_time, help_time, h.k.time], fun i hi => ?_, fun i x b hx hb hR => by rw [help_lines, help_lines]; exact h.k.lines i x b hx hb hR⟩, fun i hi => ?_⟩
  all_goals
    by_cases hiw : (i : Int) = whoK p d.k
    case neg =>
      obtain ⟨a1, a2⟩ := help_other p what most d hiw
      obtain ⟨b1, b2⟩ := help_other (purgeP p R) what most e (r := i) (by rw [ew]; exact hiw)
      first
        | (rw [a1, b1]; exact h.k.rooms i hi)
        | (rw [a2, b2]; exact h.ts i hi)
    have hw : whoK p d.k = (i : Int) := hiw.symm
    have hlt : i < p.code.length := by
      have := (who_room hp (d.k.time % p.ticks)).2
      unfold whoK at hw
      rw [hw] at this
      simpa using this (by omega)
    have hr := h.k.rooms i hi
    have ht := h.ts i hi
    have hrl : i < d.k.rooms.length := by rw [hd.k.rl]; exact hlt
    have hrl2 : i < e.k.rooms.length := by rw [he.k.rl]; show i < (purgeC R 0 p.code).length; rw [purgeC_len]; exact hlt
    have htl : i < d.ts.length := by rw [hd.tl]; exact hlt
    have htl2 : i < e.ts.length := by rw [he.tl]; show i < (purgeC R 0 p.code).length; rw [purgeC_len]; exact hlt
    have er : d.k.rooms.getD i stNew = e.k.rooms.getD i stNew := by rw [List.getD, List.getD, hr]
    have et : d.ts.getD i 0 = e.ts.getD i 0 := by rw [List.getD, List.getD, ht]
    have ec : (purgeP p R).code.getD i [] = p.code.getD i [] := by
      show (purgeC R 0 p.code).getD i [] = _
      rw [List.getD, List.getD, purgeC_at, Nat.zero_add]
      simp [hi]
    have eb : caresB what most e i = caresB what most d i := by
      unfold caresB
      rw [er, et]
    have eh : ∀ s, helpS (purgeP p R) what i s = helpS p what i s := fun s => by
      unfold helpS
      rw [ec]
    unfold helpC
    rw [ew, hw, Int.toNat_natCast, eb]
    by_cases hcb : (0 : Int) ≤ (i : Int) ∧ caresB what most d i = true
    · rw [if_pos hcb, if_pos hcb]
      simp only [eh, ← er, ← et]
      first
        | rw [List.getElem?_set_self hrl, List.getElem?_set_self hrl2]
        | rw [List.getElem?_set_self htl, List.getElem?_set_self htl2]
    · rw [if_neg hcb, if_neg hcb]
      first
        | exact hr
        | exact ht
/-- NO OTHER ROOM SEES IT: one tick. -/
theorem simC_tick {p : PD} {R : Nat → Bool} {what : List Int} {most : Int} {d e : CD} (hp : plchk p = 0) (hd : COk p what most d) (he : COk (purgeP p R) what most e) (hc : ClosedR p.wires R) (hw0 : ∀ x ∈ p.wires, 0 ≤ x.1) (h : SimC p.wires R d e) : SimC p.wires R (tickC p what most d) (tickC (purgeP p R) what most e) := by
  have hh := simC_help hd he hp h
  exact ⟨sim_tick hp (helpC_ok hp hd).k (helpC_ok (purge_right R hp) he).k hc hw0 hh.k, hh.ts⟩
end Go.Proofs.YtfconbblnmbnpafDoor
namespace Go.Proofs.YtfconbblnmbnpafDoor
open Go.RowKit

/-- Where it lies. -/
structure CW where
  kb : Nat
  a : GW
  qb : Nat
  qcap : Nat
/-- All its blocks. -/
def CW.F (cb : Nat) (x : CW) : List Nat := cb :: x.qb :: x.a.F x.kb
structure GC (w : World) (base : Nat) (p : PD) (what : List Int) (most : Int) (d : CD) (cb : Nat) (x : CW) : Prop where
  c0 : w.cell? ⟨cb, 0, none⟩ = some (.pointer (some ⟨x.kb, 0, none⟩))
  c1 : w.cell? ⟨cb, 1, none⟩ = some (.slice (some ⟨x.qb, 0, none⟩) d.ts.length x.qcap)
  c2 : w.cell? ⟨cb, 2, none⟩ = some (.int .i64 most)
  k : GK w base p d.k x.kb x.a
  row : ∀ (i : Nat) t, d.ts[i]? = some t → w.cell? ⟨x.qb, i * 3, none⟩ = some (.int .i64 (what.getD i 0)) ∧ w.cell? ⟨x.qb, i * 3 + 1, none⟩ = some (.int .i64 ((p.code.getD i []).length : Nat)) ∧ w.cell? ⟨x.qb, i * 3 + 2, none⟩ = some (.int .i64 t)
  qf : ∀ o, w.frozen? ⟨x.qb, o, none⟩ = false
  ge : base ≤ cb ∧ base ≤ x.qb
  lt : cb < w.heap.size ∧ x.qb < w.heap.size
  ap : cb ≠ x.qb ∧ cb ∉ x.a.F x.kb ∧ x.qb ∉ x.a.F x.kb
section
variable {w w' : World} {base : Nat} {p : PD} {what : List Int} {most : Int} {d : CD} {cb : Nat} {x : CW}
theorem GC.flt (h : GC w base p what most d cb x) : ∀ g ∈ x.F cb, g < w.heap.size := fun g hg => by
  unfold CW.F at hg
  rcases List.mem_cons.1 hg with h1 | h1
  · rw [h1]; exact h.lt.1
  · rcases List.mem_cons.1 h1 with h2 | h2
    · rw [h2]; exact h.lt.2
    · exact h.k.flt g h2
theorem GC.fge (h : GC w base p what most d cb x) : ∀ g ∈ x.F cb, base ≤ g := fun g hg => by
  unfold CW.F at hg
  rcases List.mem_cons.1 hg with h1 | h1
  · rw [h1]; exact h.ge.1
  · rcases List.mem_cons.1 h1 with h2 | h2
    · rw [h2]; exact h.ge.2
    · exact h.k.ge g h2
/-- Its own block and its row are as they were, its kernel is another one. -/
theorem GC.kern (h : GC w base p what most d cb x) {k' : KD} {a' : GW} (ht : KTouch (x.a.F x.kb) w w') (hk : GK w' base p k' x.kb a') (hn : ∀ g ∈ a'.F x.kb, g ∈ x.a.F x.kb ∨ w.heap.size ≤ g) : GC w' base p what most ⟨k', d.ts⟩ cb { x with a := a' } := by
  have b1 := ht.block cb h.lt.1 h.ap.2.1
  have b2 := ht.block x.qb h.lt.2 h.ap.2.2
  have hc := fun o => World.cell?_of_block (w := w) (w' := w') (a := ⟨cb, o, none⟩) b1
  have hq := fun o => World.cell?_of_block (w := w) (w' := w') (a := ⟨x.qb, o, none⟩) b2
  have hf := fun o => World.frozen?_of_block (w := w) (w' := w') (a := ⟨x.qb, o, none⟩) b2
  have hs := ht.size
  have h1 := h.lt.1
  have h2 := h.lt.2
  refine ⟨(hc 0).trans h.c0, (hc 1).trans h.c1, (hc 2).trans h.c2, hk, fun i t hi => ?_, fun o => (hf o).trans (h.qf o), h.ge, ⟨by omega, by show x.qb < _; omega⟩, ⟨h.ap.1, fun hm => ?_, fun hm => ?_⟩⟩
  · obtain ⟨r0, r1, r2⟩ := h.row i t hi
    exact ⟨(hq _).trans r0, (hq _).trans r1, (hq _).trans r2⟩
  · rcases hn cb hm with e | e
    · exact h.ap.2.1 e
    · omega
  · rcases hn x.qb hm with e | e
    · exact h.ap.2.2 e
    · omega
/-- What is written elsewhere leaves it as it is. -/
theorem GC.frame (h : GC w base p what most d cb x) {M : List Nat} (ht : KTouch M w w') (hM : ∀ m ∈ M, m ∉ x.F cb) : GC w' base p what most d cb x := by
  have m1 : cb ∈ x.F cb := by simp [CW.F]
  have m2 : x.qb ∈ x.F cb := by simp [CW.F]
  have m3 : ∀ g ∈ x.a.F x.kb, g ∈ x.F cb := fun g hg => by simp [CW.F, hg]
  have b1 := ht.block cb h.lt.1 (fun hm => hM _ hm m1)
  have b2 := ht.block x.qb h.lt.2 (fun hm => hM _ hm m2)
  have hc := fun o => World.cell?_of_block (w := w) (w' := w') (a := ⟨cb, o, none⟩) b1
  have hq := fun o => World.cell?_of_block (w := w) (w' := w') (a := ⟨x.qb, o, none⟩) b2
  have hf := fun o => World.frozen?_of_block (w := w) (w' := w') (a := ⟨x.qb, o, none⟩) b2
  have hs := ht.size
  have h1 := h.lt.1
  have h2 := h.lt.2
  refine ⟨(hc 0).trans h.c0, (hc 1).trans h.c1, (hc 2).trans h.c2, h.k.frame ht (fun m hm hd => hM m hm (m3 m hd)), fun i t hi => ?_, fun o => (hf o).trans (h.qf o), h.ge, ⟨by omega, by omega⟩, h.ap⟩
  obtain ⟨r0, r1, r2⟩ := h.row i t hi
  exact ⟨(hq _).trans r0, (hq _).trans r1, (hq _).trans r2⟩
theorem GC.all (h : GC w base p what most d cb x) (hb : Below w.heap.size w w') : GC w' base p what most d cb x := h.frame (M := []) (KTouch.of hb) (by simp)
theorem GC.lower {base' : Nat} (h : GC w base p what most d cb x) (hb : base' ≤ base) : GC w base' p what most d cb x :=
  ⟨h.c0, h.c1, h.c2, h.k.lower hb, h.row, h.qf, ⟨Nat.le_trans hb h.ge.1, Nat.le_trans hb h.ge.2⟩, h.lt, h.ap⟩
/-- A room was helped once more. -/
theorem GC.times (h : GC w base p what most d cb x) {r : Nat} {t : Int} (hr : d.ts[r]? = some t) (t' : Int) : GC (w.setCell ⟨x.qb, r * 3 + 2, none⟩ (.int .i64 t')) base p what most ⟨d.k, d.ts.set r t'⟩ cb x := by
  have hlen := (List.getElem?_eq_some_iff.1 hr).1
  have ht : KTouch [x.qb] w (w.setCell ⟨x.qb, r * 3 + 2, none⟩ (.int .i64 t')) := KTouch.set w (by simp) _ _
  have b1 := ht.block cb h.lt.1 (by simpa using h.ap.1)
  have hc := fun o => World.cell?_of_block (w := w) (w' := w.setCell ⟨x.qb, r * 3 + 2, none⟩ (.int .i64 t')) (a := ⟨cb, o, none⟩) b1
  refine ⟨(hc 0).trans h.c0, by simp only [List.length_set]; exact (hc 1).trans h.c1, (hc 2).trans h.c2, h.k.frame ht (fun m hm => ?_), fun i u hu => ?_, fun o => by simpa using h.qf o, h.ge, by simpa using h.lt, h.ap⟩
  · rw [List.mem_singleton] at hm
    subst hm
    exact h.ap.2.2
  · simp only at hu
    by_cases hir : r = i
    · subst hir
      rw [List.getElem?_set_self hlen] at hu
      obtain rfl := Option.some.inj hu
      obtain ⟨r0, r1, r2⟩ := h.row r t hr
      refine ⟨?_, ?_, ?_⟩
      · rw [setCell_far (by omega)]; exact r0
      · rw [setCell_far (by omega)]; exact r1
      · simp [go_sem, r2]
    · rw [List.getElem?_set_ne hir] at hu
      obtain ⟨r0, r1, r2⟩ := h.row i u hu
      refine ⟨?_, ?_, ?_⟩
      · rw [setCell_far (by omega)]; exact r0
      · rw [setCell_far (by omega)]; exact r1
      · rw [setCell_far (by omega)]; exact r2
end
end Go.Proofs.YtfconbblnmbnpafDoor
namespace Go.Proofs.YtfconbblnmbnpafDoor
open Go.ChangeShapes

theorem trodAll_four {H : Type} {enc : TypeId × Value → H} {P : Program} {w : World} {base : Nat} {spare : Nat → Bool} {held : Bool} {t0 t1 t2 t3 : TypeId} {args : Array Value} {ds : List (DataW H)} {ps : List MemPlace} (h : DataW.TrodAll enc P w base spare held [t0, t1, t2, t3] args.toList ds ps) :
    ∃ v0 v1 v2 v3 d0 d1 d2 d3 p0 p1 p2 p3, args = #[v0, v1, v2, v3] ∧ ds = [d0, d1, d2, d3] ∧ DataW.Trod enc P w base spare held t0 v0 d0 p0 ∧ DataW.Trod enc P w base spare held t1 v1 d1 p1 ∧ DataW.Trod enc P w base spare held t2 v2 d2 p2 ∧ DataW.Trod enc P w base spare held t3 v3 d3 p3 := by
  obtain ⟨v0, vs0, d0, ds0, p0, q0, hargs, rfl, rfl, h0, r0⟩ := trodAll_cons h
  obtain ⟨v1, vs1, d1, ds1, p1, q1, rfl, rfl, rfl, h1, r1⟩ := trodAll_cons r0
  obtain ⟨v2, vs2, d2, ds2, p2, q2, rfl, rfl, rfl, h2, r2⟩ := trodAll_cons r1
  obtain ⟨v3, vs3, d3, ds3, p3, q3, rfl, rfl, rfl, h3, r3⟩ := trodAll_cons r2
  obtain ⟨rfl, rfl, rfl⟩ := trodAll_nil r3
  exact ⟨v0, v1, v2, v3, d0, d1, d2, d3, p0, p1, p2, p3, by cases args; simp_all, rfl, h0, h1, h2, h3⟩
theorem trodAll_five {H : Type} {enc : TypeId × Value → H} {P : Program} {w : World} {base : Nat} {spare : Nat → Bool} {held : Bool} {t0 t1 t2 t3 t4 : TypeId} {args : Array Value} {ds : List (DataW H)} {ps : List MemPlace} (h : DataW.TrodAll enc P w base spare held [t0, t1, t2, t3, t4] args.toList ds ps) :
    ∃ v0 v1 v2 v3 v4 d0 d1 d2 d3 d4 p0 p1 p2 p3 p4, args = #[v0, v1, v2, v3, v4] ∧ ds = [d0, d1, d2, d3, d4] ∧ DataW.Trod enc P w base spare held t0 v0 d0 p0 ∧ DataW.Trod enc P w base spare held t1 v1 d1 p1 ∧ DataW.Trod enc P w base spare held t2 v2 d2 p2 ∧ DataW.Trod enc P w base spare held t3 v3 d3 p3 ∧ DataW.Trod enc P w base spare held t4 v4 d4 p4 := by
  obtain ⟨v0, vs0, d0, ds0, p0, q0, hargs, rfl, rfl, h0, r0⟩ := trodAll_cons h
  obtain ⟨v1, vs1, d1, ds1, p1, q1, rfl, rfl, rfl, h1, r1⟩ := trodAll_cons r0
  obtain ⟨v2, vs2, d2, ds2, p2, q2, rfl, rfl, rfl, h2, r2⟩ := trodAll_cons r1
  obtain ⟨v3, vs3, d3, ds3, p3, q3, rfl, rfl, rfl, h3, r3⟩ := trodAll_cons r2
  obtain ⟨v4, vs4, d4, ds4, p4, q4, rfl, rfl, rfl, h4, r4⟩ := trodAll_cons r3
  obtain ⟨rfl, rfl, rfl⟩ := trodAll_nil r4
  exact ⟨v0, v1, v2, v3, v4, d0, d1, d2, d3, d4, p0, p1, p2, p3, p4, by cases args; simp_all, rfl, h0, h1, h2, h3, h4⟩
theorem trodAll_six {H : Type} {enc : TypeId × Value → H} {P : Program} {w : World} {base : Nat} {spare : Nat → Bool} {held : Bool} {t0 t1 t2 t3 t4 t5 : TypeId} {args : Array Value} {ds : List (DataW H)} {ps : List MemPlace} (h : DataW.TrodAll enc P w base spare held [t0, t1, t2, t3, t4, t5] args.toList ds ps) :
    ∃ v0 v1 v2 v3 v4 v5 d0 d1 d2 d3 d4 d5 p0 p1 p2 p3 p4 p5, args = #[v0, v1, v2, v3, v4, v5] ∧ ds = [d0, d1, d2, d3, d4, d5] ∧ DataW.Trod enc P w base spare held t0 v0 d0 p0 ∧ DataW.Trod enc P w base spare held t1 v1 d1 p1 ∧ DataW.Trod enc P w base spare held t2 v2 d2 p2 ∧ DataW.Trod enc P w base spare held t3 v3 d3 p3 ∧ DataW.Trod enc P w base spare held t4 v4 d4 p4 ∧ DataW.Trod enc P w base spare held t5 v5 d5 p5 := by
  obtain ⟨v0, vs0, d0, ds0, p0, q0, hargs, rfl, rfl, h0, r0⟩ := trodAll_cons h
  obtain ⟨v1, vs1, d1, ds1, p1, q1, rfl, rfl, rfl, h1, r1⟩ := trodAll_cons r0
  obtain ⟨v2, vs2, d2, ds2, p2, q2, rfl, rfl, rfl, h2, r2⟩ := trodAll_cons r1
  obtain ⟨v3, vs3, d3, ds3, p3, q3, rfl, rfl, rfl, h3, r3⟩ := trodAll_cons r2
  obtain ⟨v4, vs4, d4, ds4, p4, q4, rfl, rfl, rfl, h4, r4⟩ := trodAll_cons r3
  obtain ⟨v5, vs5, d5, ds5, p5, q5, rfl, rfl, rfl, h5, r5⟩ := trodAll_cons r4
  obtain ⟨rfl, rfl, rfl⟩ := trodAll_nil r5
  exact ⟨v0, v1, v2, v3, v4, v5, d0, d1, d2, d3, d4, d5, p0, p1, p2, p3, p4, p5, by cases args; simp_all, rfl, h0, h1, h2, h3, h4, h5⟩
theorem trodAll_seven {H : Type} {enc : TypeId × Value → H} {P : Program} {w : World} {base : Nat} {spare : Nat → Bool} {held : Bool} {t0 t1 t2 t3 t4 t5 t6 : TypeId} {args : Array Value} {ds : List (DataW H)} {ps : List MemPlace} (h : DataW.TrodAll enc P w base spare held [t0, t1, t2, t3, t4, t5, t6] args.toList ds ps) :
    ∃ v0 v1 v2 v3 v4 v5 v6 d0 d1 d2 d3 d4 d5 d6 p0 p1 p2 p3 p4 p5 p6, args = #[v0, v1, v2, v3, v4, v5, v6] ∧ ds = [d0, d1, d2, d3, d4, d5, d6] ∧ DataW.Trod enc P w base spare held t0 v0 d0 p0 ∧ DataW.Trod enc P w base spare held t1 v1 d1 p1 ∧ DataW.Trod enc P w base spare held t2 v2 d2 p2 ∧ DataW.Trod enc P w base spare held t3 v3 d3 p3 ∧ DataW.Trod enc P w base spare held t4 v4 d4 p4 ∧ DataW.Trod enc P w base spare held t5 v5 d5 p5 ∧ DataW.Trod enc P w base spare held t6 v6 d6 p6 := by
  obtain ⟨v0, vs0, d0, ds0, p0, q0, hargs, rfl, rfl, h0, r0⟩ := trodAll_cons h
  obtain ⟨v1, vs1, d1, ds1, p1, q1, rfl, rfl, rfl, h1, r1⟩ := trodAll_cons r0
  obtain ⟨v2, vs2, d2, ds2, p2, q2, rfl, rfl, rfl, h2, r2⟩ := trodAll_cons r1
  obtain ⟨v3, vs3, d3, ds3, p3, q3, rfl, rfl, rfl, h3, r3⟩ := trodAll_cons r2
  obtain ⟨v4, vs4, d4, ds4, p4, q4, rfl, rfl, rfl, h4, r4⟩ := trodAll_cons r3
  obtain ⟨v5, vs5, d5, ds5, p5, q5, rfl, rfl, rfl, h5, r5⟩ := trodAll_cons r4
  obtain ⟨v6, vs6, d6, ds6, p6, q6, rfl, rfl, rfl, h6, r6⟩ := trodAll_cons r5
  obtain ⟨rfl, rfl, rfl⟩ := trodAll_nil r6
  exact ⟨v0, v1, v2, v3, v4, v5, v6, d0, d1, d2, d3, d4, d5, d6, p0, p1, p2, p3, p4, p5, p6, by cases args; simp_all, rfl, h0, h1, h2, h3, h4, h5, h6⟩
end Go.Proofs.YtfconbblnmbnpafDoor
namespace Go.Proofs.YtfconbblnmbnpafDoor
open Go.RowKit

theorem set4_blk {w : World} {kb : Nat} {a b c d a' b' c' d' : Value} {t : TypeId} (h : w.heap[kb]? = some (.cells #[a, b, c, d] t (0, 0))) : ((((w.setCell ⟨kb, 0, none⟩ a').setCell ⟨kb, 1, none⟩ b').setCell ⟨kb, 2, none⟩ c').setCell ⟨kb, 3, none⟩ d').heap[kb]? = some (.cells #[a', b', c', d'] t (0, 0)) := by
  simp [World.setCell, Array.getElem?_modify, h]
theorem set4_below {B : Nat} {w w' : World} (h : Below B w w') (b : Nat) (hb : B ≤ b) (x0 x1 x2 x3 : Value) : Below B w ((((w'.setCell ⟨b, 0, none⟩ x0).setCell ⟨b, 1, none⟩ x1).setCell ⟨b, 2, none⟩ x2).setCell ⟨b, 3, none⟩ x3) :=
  (((h.setCell (p := ⟨b, 0, none⟩) hb x0).setCell (p := ⟨b, 1, none⟩) hb x1).setCell (p := ⟨b, 2, none⟩) hb x2).setCell (p := ⟨b, 3, none⟩) hb x3
theorem set4_touch (w : World) (b : Nat) (x0 x1 x2 x3 : Value) : KTouch [b] w ((((w.setCell ⟨b, 0, none⟩ x0).setCell ⟨b, 1, none⟩ x1).setCell ⟨b, 2, none⟩ x2).setCell ⟨b, 3, none⟩ x3) :=
  have hm : b ∈ [b] := by simp
  (((KTouch.set w hm 0 x0).trans (KTouch.set _ hm 1 x1)).trans (KTouch.set _ hm 2 x2)).trans (KTouch.set _ hm 3 x3)
theorem blk4_cs {w : World} {kb : Nat} {a b c d : Value} {t : TypeId} (h : w.heap[kb]? = some (.cells #[a, b, c, d] t (0, 0))) : w.cell? ⟨kb, 0, none⟩ = some a ∧ w.cell? ⟨kb, 1, none⟩ = some b ∧ w.cell? ⟨kb, 2, none⟩ = some c ∧ w.cell? ⟨kb, 3, none⟩ = some d ∧ w.frozen? ⟨kb, 0, none⟩ = false ∧ w.frozen? ⟨kb, 1, none⟩ = false ∧ w.frozen? ⟨kb, 2, none⟩ = false ∧ w.frozen? ⟨kb, 3, none⟩ = false := by
  simp [World.cell?, World.frozen?, h]
end Go.Proofs.YtfconbblnmbnpafDoor
namespace Go.Proofs.YtfconbblnmbnpafDoor
open Go.RowKit

/-- How often a room was helped. -/
def timesC (d : CD) (r : Int) : Int := if noRoom d.k r = true then 0 else d.ts.getD r.toNat 0
/-- What package care does, in every world of a kind: K w0 w p what most d cb F: made in the world w0, of the plan p, a kernel with rules lies at block cb; it is d, and all that it has lies in the blocks F. -/
structure CarC (G : World → Prop) where
  K : World → World → PD → List Int → Int → CD → Nat → List Nat → Prop
  all : ∀ w w', G w → Below w.heap.size w w' → G w'
  since : ∀ {w0 w p what most d cb F}, K w0 w p what most d cb F → Below w0.heap.size w0 w
  ge : ∀ {w0 w p what most d cb F}, K w0 w p what most d cb F → ∀ g ∈ F, w0.heap.size ≤ g ∧ g < w.heap.size
  lower : ∀ {w1 w0 w p what most d cb F}, Below w1.heap.size w1 w0 → K w0 w p what most d cb F → K w1 w p what most d cb F
  frame : ∀ {w0 w w' p what most d cb F M}, K w0 w p what most d cb F → KTouch M w w' → (∀ m ∈ M, m ∉ F ∧ w0.heap.size ≤ m) → K w0 w' p what most d cb F
  new : ∀ (p : PD) (vc vs vw wv : Value) (what : List Int) (most : Int) (W : World), G W → Pln W vc vs vw p → Stp W wv what → carE p what most = 0 → Calls Tryd.prog 15 #[plV vc p.ticks vs vw, wv, .int .i64 most] W fun e w' => ∃ cb F, e = .returned (.tuple #[.pointer (some ⟨cb, 0, none⟩), .nilIface]) ∧ K W w' p what most (newC p) cb F
  no : ∀ (p : PD) (vc vs vw wv : Value) (what : List Int) (most : Int) (W : World), G W → Pln W vc vs vw p → Stp W wv what → carE p what most ≠ 0 → Calls Tryd.prog 15 #[plV vc p.ticks vs vw, wv, .int .i64 most] W fun e w' => ∃ x, e = .returned (.tuple #[.pointer x, wErr (carE p what most)]) ∧ Below W.heap.size W w'
  tick : ∀ {w0 W p what most d cb F}, G w0 → K w0 W p what most d cb F → carE p what most = 0 → COk p what most d → d.k.time < 100000000 → Calls Tryd.prog 16 #[.pointer (some ⟨cb, 0, none⟩)] W fun e w' => e = .returned (evA (evC p what most d)) ∧ ∃ F', K w0 w' p what most (tickC p what most d) cb F' ∧ KTouch F W w' ∧ ∀ g ∈ F', g ∈ F ∨ W.heap.size ≤ g
  state : ∀ {w0 W p what most d cb F} (r : Int), K w0 W p what most d cb F → COk p what most d → carE p what most = 0 → Calls Tryd.prog 21 #[.pointer (some ⟨cb, 0, none⟩), .int .i64 r] W fun e w' => e = .returned (.tuple #[stA (roomK d.k r), wErr (errB (noRoom d.k r))]) ∧ Below W.heap.size W w'
  times : ∀ {w0 W p what most d cb F} (r : Int), K w0 W p what most d cb F → COk p what most d → carE p what most = 0 → Calls Tryd.prog 17 #[.pointer (some ⟨cb, 0, none⟩), .int .i64 r] W fun e w' => e = .returned (.tuple #[.int .i64 (timesC d r), wErr (errB (noRoom d.k r))]) ∧ Below W.heap.size W w'
end Go.Proofs.YtfconbblnmbnpafDoor
namespace Go.Proofs.YtfconbblnmbnpafDoor
open Go.RowKit

set_option maxRecDepth 100000 in
set_option maxHeartbeats 1000000 in
theorem flroom_yes (r : Int) (w : World) (h0 : 0 ≤ r) (h1 : r < 5) : Calls Tryd.prog 66 #[.int .i64 r] w fun e w' => e = .returned (.bool true) ∧ w' = w := by
  go_enter Tryd.func66, Tryd.ntmps66
  go_wp2
  go_ret
  exact ⟨rfl, rfl⟩
set_option maxRecDepth 100000 in
set_option maxHeartbeats 1000000 in
theorem flroom_no (r : Int) (w : World) (h : ¬ (0 ≤ r ∧ r < 5)) : Calls Tryd.prog 66 #[.int .i64 r] w fun e w' => e = .returned (.bool false) ∧ w' = w := by
  by_cases h0 : 0 ≤ r
  · have h1 : decide (r < 5) = false := by simp; omega
    clear h
    go_enter Tryd.func66, Tryd.ntmps66
    go_wp2
    go_ret
    exact ⟨rfl, rfl⟩
  · have h0' : decide (0 ≤ r) = false := by simp; omega
    clear h
    go_enter Tryd.func66, Tryd.ntmps66
    go_wp2
    go_ret
    exact ⟨rfl, rfl⟩
end Go.Proofs.YtfconbblnmbnpafDoor
namespace Go.Proofs.YtfconbblnmbnpafDoor
open Go.RowKit

theorem Ops.block {w w' : World} {v : Value} {l : List O3} (h : Ops w v l) (hb : ∀ k, k < w.heap.size → v.ownBlock = some k → w'.heap[k]? = w.heap[k]?) (hs : w.heap.size ≤ w'.heap.size) : Ops w' v l := by
  rcases h with h | ⟨b, off, cap, rfl, hlt, hc⟩
  · exact Or.inl h
  · have hk := hb b hlt rfl
    refine Or.inr ⟨b, off, cap, rfl, by omega, fun i o ho => ?_⟩
    obtain ⟨h0, h1, h2⟩ := hc i o ho
    exact ⟨(World.cell?_of_block (w := w) (a := ⟨b, _, none⟩) hk).trans h0, (World.cell?_of_block (w := w) (a := ⟨b, _, none⟩) hk).trans h1, (World.cell?_of_block (w := w) (a := ⟨b, _, none⟩) hk).trans h2⟩
theorem Ops.lt {w : World} {v : Value} {l : List O3} (h : Ops w v l) (hl : l ≠ []) : ∀ g, v.ownBlock = some g → g < w.heap.size := fun g hg => by
  rcases h with ⟨rfl, _⟩ | ⟨b, off, cap, rfl, hlt, _⟩
  · exact absurd rfl hl
  · simp only [Value.ownBlock, Option.some.injEq] at hg
    omega
end Go.Proofs.YtfconbblnmbnpafDoor
namespace Go.Proofs.YtfconbblnmbnpafDoor
open Go.RowKit

/-- What lies in fours can be read cell by cell. -/
theorem quad_at {w : World} {b : Nat} : ∀ (l : List W4) (off : Nat), WrC w b off l → ∀ j u, (wrCells l)[j]? = some u → w.cell? ((⟨b, off, none⟩ : Addr).add j) = some u
  | [], off, _, j, u, hj => by simp [wrCells] at hj
  | x :: l, off, h, j, u, hj => by
    have e : wrCells (x :: l) = [.int .i64 x.1, .int .i64 x.2.1, .int .i64 x.2.2.1, .int .i64 x.2.2.2] ++ wrCells l := by simp [wrCells]
    rw [e] at hj
    obtain ⟨h0, h1, h2, h3⟩ := h 0 x (by simp)
    rw [Addr.add_lit]
    match j, hj with
    | 0, hj => simp at hj; subst hj; simpa using h0
    | 1, hj => simp at hj; subst hj; simpa using h1
    | 2, hj => simp at hj; subst hj; simpa using h2
    | 3, hj => simp at hj; subst hj; simpa using h3
    | j + 4, hj =>
      rw [List.getElem?_append_right (by simp)] at hj
      have ih := quad_at l (off + 4) (fun i o ho => by
        have := h (i + 1) o (by simpa using ho)
        rw [show off + (i + 1) * 4 = off + 4 + i * 4 by omega] at this
        exact this) j u (by simpa using hj)
      rw [Addr.add_lit] at ih
      rw [show off + (j + 4) = off + 4 + j by omega]
      exact ih
set_option maxRecDepth 100000 in
set_option maxHeartbeats 4000000 in
theorem clone_wr_nil (cap : Nat) (w : World) : Calls Tryd.prog 44 #[.slice none 0 cap] w fun e w' => e = .returned (.slice none 0 0) ∧ w' = w := by
  have q : ∀ (w : World) (a : Option Addr) (n c n' c' : Nat), (binOp .eql 24 (.slice a n c) (.slice none n' c')).run Tryd.prog w = .ok (.bool a.isNone) w := fun w a n c n' c' => Lib.run_eql_slice_nil w _ _ a n c n' c' Tryd.underlying24
  go_enter Tryd.func44, Tryd.ntmps44
  go_wp2
  go_ret
  exact ⟨rfl, rfl⟩
set_option maxRecDepth 100000 in
set_option maxHeartbeats 4000000 in
theorem clone_wr_some (ad : Addr) (cap : Nat) (l : List W4) (w : World) (hx : l.length ≤ 1000) (hc : ∀ j u, (wrCells l)[j]? = some u → w.cell? (ad.add j) = some u) :
    Calls Tryd.prog 44 #[.slice (some ad) l.length cap] w fun e w' => ∃ v', e = .returned v' ∧ w'.ownsRow w.heap.size 83 4 v' l.length (wrCells l) ∧ Below w.heap.size w w' := by
  obtain ⟨ii, hi, hz0, hz1, hz2⟩ := info_parts infoWr
  have q : ∀ (w : World) (a : Option Addr) (n c n' c' : Nat), (binOp .eql 24 (.slice a n c) (.slice none n' c')).run Tryd.prog w = .ok (.bool a.isNone) w := fun w a n c n' c' => Lib.run_eql_slice_nil w _ _ a n c n' c' Tryd.underlying24
  have HC : Hid (∀ j u, (wrCells l)[j]? = some u → w.cell? (ad.add j) = some u) := hc
  clear hc
  go_enter Tryd.func44, Tryd.ntmps44
  go_wp2_with (at_builtin; refine wpList_append_at _ rfl _ _ 24 rfl w.heap.size 83 ii _ 4 32 Tryd.underlying24 hi hz0 hz1 hz2 rfl (by decide) _ _ _ rfl (World.ownsRow_made w #[] 0 (Nat.le_refl _) (Nat.zero_le _) rfl) ad l.length cap (wrCells l) rfl ?c0A ?c1A ?c2A ?c3A ?c4A ?c5A ?_)
  case c0A => exact wrCells_len l
  case c1A =>
    intro j u hj
    have h := HC.out j u hj
    exact (((Below.refl _ w).alloc (Nat.le_refl _) _).cell (p := ad.add j) (World.block_lt_of_cell? w _ h)).trans h
  case c2A => exact wrCells_one l
  case c3A => unfold maxLen; omega
  case c4A => omega
  case c5A => simp
  intro v1 w2 own1 hg1 hat1
  clear q
  go_wp2
  go_ret
  refine ⟨v1, rfl, by simpa using own1, ((Below.refl _ w).alloc (Nat.le_refl _) _).grown hg1 (by simp) (by intro k hk; simp [Value.ownBlock] at hk; omega)⟩
theorem clone_wrs (l : List W4) (v : Value) (w : World) (h : Wrs w v l) (hx : l.length ≤ 1000) :
    Calls Tryd.prog 44 #[v] w fun e w' => ∃ v', e = .returned v' ∧ w'.ownsRow w.heap.size 83 4 v' l.length (wrCells l) ∧ Below w.heap.size w w' := by
  rcases h with ⟨rfl, ao, cap, rfl⟩ | ⟨b, off, cap, rfl, hcap, hlt, hc⟩
  · cases ao with
    | none =>
      refine (clone_wr_nil cap w).mono ?_
      rintro e w' ⟨rfl, rfl⟩
      exact ⟨_, rfl, World.ownsRow_nil _ _ _ _, Below.refl _ _⟩
    | some ad => exact clone_wr_some ad cap [] w (Nat.zero_le _) (fun j u hj => by simp [wrCells] at hj)
  · exact clone_wr_some ⟨b, off, none⟩ cap l w hx (quad_at l off hc)
end Go.Proofs.YtfconbblnmbnpafDoor
namespace Go.Proofs.YtfconbblnmbnpafDoor
open Go.RowKit

set_option maxRecDepth 100000 in
set_option maxHeartbeats 2000000 in
theorem index_ints (xs : List Int) (x : Int) (b off cap : Nat) (w : World) (hx : xs.length ≤ 1000) (hc : ∀ (i : Nat) y, xs[i]? = some y → w.cell? ⟨b, off + i, none⟩ = some (.int .i64 y)) :
    Calls Tryd.prog 68 #[.slice (some ⟨b, off, none⟩) xs.length cap, .int .i64 x] w fun e w' => (∃ r : Int, e = .returned (.int .i64 r) ∧ decide (0 ≤ r) = xs.contains x) ∧ w' = w := by
  have HC : Hid (∀ (i : Nat) y, xs[i]? = some y → w.cell? ⟨b, off + i, none⟩ = some (.int .i64 y)) := hc
  clear hc
  go_enter Tryd.func68, Tryd.ntmps68
  go_wp2
  go_loopw [8] (fun i wr => ∃ k : Nat, k ≤ xs.length ∧ i = .int .i64 k ∧ (∀ (j : Nat) y, j < k → xs[j]? = some y → (x == y) = false) ∧ wr = w) (fun i _ => xs.length - (intOf i).toNat)
  case atStart => exact ⟨0, Nat.zero_le _, rfl, fun j y hj => by omega, rfl⟩
  case round =>
    obtain ⟨k, hk, rfl, hall, rfl⟩ := hrel
    have Hall : Hid (∀ (j : Nat) y, j < k → xs[j]? = some y → (x == y) = false) := hall
    clear hall
    by_cases hkl : k < xs.length
    · have hki : (k : Int) < (xs.length : Int) := by omega
      obtain ⟨y, hy⟩ : ∃ y, xs[k]? = some y := ⟨xs[k], List.getElem?_eq_getElem hkl⟩
      have d0 := HC.out k y hy
      have HY : Hid (xs[k]? = some y) := hy
      clear hy
      cases hxy : (x == y) with
      | false =>
        go_wp2
        go_roundw
        case rel =>
          refine ⟨k + 1, by omega, by go_num, fun j z hj hz => ?_, by trivial⟩
          by_cases hjk : j < k
          · exact Hall.out j z hjk hz
          · obtain rfl : j = k := by omega
            rw [HY.out] at hz
            obtain rfl := Option.some.inj hz
            exact hxy
        case measure => simp [intOf]; omega
      | true =>
        have HF : Hid (xs.contains x = true) := by
          show _ = _
          rw [List.contains_iff_mem]
          obtain rfl := eq_of_beq hxy
          exact List.mem_of_getElem? HY.out
        go_wp2
        go_ret
        exact ⟨⟨_, rfl, by rw [HF.out]; simp⟩, rfl⟩
    · have hki : decide ((k : Int) < (xs.length : Int)) = false := decide_eq_false (by omega)
      have hki' : decide (k < xs.length) = false := decide_eq_false (by omega)
      have HF : Hid (xs.contains x = false) := by
        show _ = _
        rw [Bool.eq_false_iff]
        intro h
        rw [List.contains_iff_mem] at h
        obtain ⟨j, hj⟩ := List.mem_iff_getElem?.1 h
        have := Hall.out j x (by have := (List.getElem?_eq_some_iff.1 hj).1; omega) hj
        simp at this
      go_wp2
      go_ret
      exact ⟨⟨_, rfl, by rw [HF.out]; decide⟩, rfl⟩
set_option maxRecDepth 100000 in
set_option maxHeartbeats 2000000 in
theorem contains_ints (xs : List Int) (x : Int) (b off cap : Nat) (w : World) (hx : xs.length ≤ 1000) (hc : ∀ (i : Nat) y, xs[i]? = some y → w.cell? ⟨b, off + i, none⟩ = some (.int .i64 y)) :
    Calls Tryd.prog 45 #[.slice (some ⟨b, off, none⟩) xs.length cap, .int .i64 x] w fun e w' => e = .returned (.bool (xs.contains x)) ∧ w' = w := by
  have h := index_ints xs x b off cap w hx hc
  obtain ⟨r, hr⟩ : ∃ r, r = xs.contains x := ⟨_, rfl⟩
  rw [← hr] at h ⊢
  clear hr hc
  go_enter Tryd.func45, Tryd.ntmps45
  go_wp2_with (go_at_call 68; refine h.mono ?_; rintro e w1 ⟨⟨q, rfl, hq⟩, rfl⟩; clear h)
  go_ret
  exact ⟨rfl, rfl⟩
end Go.Proofs.YtfconbblnmbnpafDoor
namespace Go.Proofs.YtfconbblnmbnpafDoor

/-- What is wrong with a plan, or a room of it. -/
def prgE (p : PD) (r : Int) : Int := if plchk p = 0 then (if r < 0 ∨ (p.code.length : Int) ≤ r then 1 else 0) else plchk p
theorem prgE_two (p : PD) (r : Int) : prgE p r = if plchk p = 0 ∧ (r < 0 ∨ (p.code.length : Int) ≤ r) then 1 else plchk p := by
  unfold prgE
  by_cases h : plchk p = 0
  · by_cases h2 : r < 0 ∨ (p.code.length : Int) ≤ r
    · rw [if_pos h, if_pos h2, if_pos ⟨h, h2⟩]
    · rw [if_pos h, if_neg h2, if_neg (fun e => h2 e.2), h]
  · rw [if_neg h, if_neg (fun e => h e.1)]
theorem prgE_zero {p : PD} {r : Int} (h : prgE p r = 0) : plchk p = 0 ∧ 0 ≤ r ∧ r < (p.code.length : Int) := by
  unfold prgE at h
  split at h
  · rename_i h1
    split at h
    · omega
    · exact ⟨h1, by omega, by omega⟩
  · omega
end Go.Proofs.YtfconbblnmbnpafDoor
namespace Go.Proofs.YtfconbblnmbnpafDoor
open Go.RowKit

/-- No plan. -/
def noPlan : PD := ⟨[], 0, [], []⟩
/-- The plan without those that cannot tell a room. -/
def prgP (p : PD) (r : Int) : PD := if prgE p r = 0 then purgeP p (fun i => way p.wires i r.toNat) else noPlan
def PrgPurge (G : World → Prop) : Prop := ∀ (p : PD) (vc vs vw : Value) (r : Int) (W : World), G W → Pln W vc vs vw p → Calls Tryd.prog 19 #[plV vc p.ticks vs vw, .int .i64 r] W fun e w' => ∃ ic is iw, e = .returned (.tuple #[plV ic (prgP p r).ticks is iw, wErr (prgE p r)]) ∧ Pln w' ic is iw (prgP p r) ∧ Below W.heap.size W w'
end Go.Proofs.YtfconbblnmbnpafDoor
namespace Go.Proofs.YtfconbblnmbnpafDoor
open Go.RowKit

/-- The law's own plan: a room that fails. -/
def failP : PD := ⟨[[(11, 0, 0)]], 1, [(0, 1, 0)], []⟩
theorem fail_carE : carE failP [1] 1 = 0 := by decide +kernel
def failD : Nat → CD
  | 0 => newC failP
  | j + 1 => tickC failP [1] 1 (failD j)
theorem fail_0 : (evC failP [1] 1 (failD 0)).2.2.2 = 4 := by decide +kernel
theorem fail_1 : (evC failP [1] 1 (failD 1)).2.2.2 = 4 := by decide +kernel
theorem fail_2 : (evC failP [1] 1 (failD 2)).2.2.2 = 5 := by decide +kernel
theorem fail_t : timesC (failD 3) 0 = 1 ∧ noRoom (failD 3).k 0 = false := by decide +kernel
theorem failD_ok : ∀ j, COk failP [1] 1 (failD j)
  | 0 => newC_ok fail_carE
  | j + 1 => tickC_ok (carE_zero fail_carE).1 (failD_ok j)
theorem fail_time : ∀ j, (failD j).k.time = j
  | 0 => rfl
  | j + 1 => by
    show (tickK failP failP.spans (helpC failP [1] 1 (failD j)).k).1.time = _
    rw [tick_time, help_time, fail_time j]
    omega
/-- It lies in the world. -/
theorem failP_pln (W : World) (n : Nat) (hn : n = W.heap.size) : Pln (((W.alloc (.cells #[.int .i64 11, .int .i64 0, .int .i64 0] 57)).alloc (.cells #[.slice (some ⟨n, 0, none⟩) 1 1] 36)).alloc (.cells #[.int .i64 0, .int .i64 1, .int .i64 0] 59)) (.slice (some ⟨n + 1, 0, none⟩) 1 1) (.slice (some ⟨n + 2, 0, none⟩) 1 1) (.slice none 0 0) failP := by
  subst hn
  refine ⟨Or.inr ⟨_, 0, 1, rfl, Nat.le_refl _, by simp, fun i c hi => ?_⟩, Or.inr ⟨_, 0, 1, rfl, Nat.le_refl _, by simp, fun i s hi => ?_⟩, Or.inl ⟨rfl, _, _, rfl⟩⟩
  · match i, hi with
    | 0, hi =>
      simp [failP] at hi
      subst hi
      refine ⟨.slice (some ⟨W.heap.size, 0, none⟩) 1 1, by simp [go_sem], Or.inr ⟨W.heap.size, 0, 1, rfl, by simp; omega, fun j o ho => ?_⟩⟩
      match j, ho with
      | 0, ho => simp at ho; subst ho; simp [go_sem]
      | j + 1, ho => simp at ho
    | i + 1, hi => simp [failP] at hi
  · match i, hi with
    | 0, hi => simp [failP] at hi; subst hi; simp [go_sem]
    | i + 1, hi => simp [failP] at hi
/-- A kernel with rules, one without, and one with rules of the plan without those that cannot tell. -/
structure C3 {G : World → Prop} (CC : CarC G) (CK : KerC G) (w1 wr : World) (p q : PD) (vc vs vw : Value) (what : List Int) (most : Int) (d : CD) (k : KD) (e : CD) (cb kb eb : Nat) (F H J : List Nat) : Prop where
  c : CC.K w1 wr p what most d cb F
  k : CK.K w1 wr p vc vs vw k kb H
  e : CC.K w1 wr q what most e eb J
  a1 : ∀ g ∈ F, g ∉ H
  a2 : ∀ g ∈ F, g ∉ J
  a3 : ∀ g ∈ H, g ∉ J
section
variable {G : World → Prop} {CC : CarC G} {CK : KerC G} {w1 wr w' : World} {p q : PD} {vc vs vw : Value} {what : List Int} {most : Int} {d : CD} {k : KD} {e : CD} {cb kb eb : Nat} {F H J : List Nat}
theorem C3.all (h : C3 CC CK w1 wr p q vc vs vw what most d k e cb kb eb F H J) (hb : Below wr.heap.size wr w') : C3 CC CK w1 w' p q vc vs vw what most d k e cb kb eb F H J :=
  ⟨CC.frame h.c (KTouch.of (M := []) hb) (by simp), CK.frame h.k (KTouch.of (M := []) hb) (by simp), CC.frame h.e (KTouch.of (M := []) hb) (by simp), h.a1, h.a2, h.a3⟩
/-- All three go on by a tick; in between the caller lays memory of its own. -/
theorem c3_tick (hG : G w1) (hcp : carE p what most = 0) (hcq : carE q what most = 0) (hd : COk p what most d) (hk : KOk p k) (he : COk q what most e) (t1 : d.k.time < 100000000) (t2 : k.time < 100000000) (t3 : e.k.time < 100000000) (h : C3 CC CK w1 wr p q vc vs vw what most d k e cb kb eb F H J) :
    Calls Tryd.prog 16 #[.pointer (some ⟨cb, 0, none⟩)] wr fun r w2 => r = .returned (evA (evC p what most d)) ∧ KTouch F wr w2 ∧ ∀ w3, Below w2.heap.size w2 w3 →
      Calls Tryd.prog 20 #[.pointer (some ⟨kb, 0, none⟩)] w3 fun r w4 => r = .returned (evA (tickK p p.spans k).2) ∧ KTouch H w3 w4 ∧ ∀ w5, Below w4.heap.size w4 w5 →
        Calls Tryd.prog 16 #[.pointer (some ⟨eb, 0, none⟩)] w5 fun r w' => (∃ a b c x, r = .returned (.agg #[.int .i64 a, .int .i64 b, .int .i64 c, .int .i64 x])) ∧ KTouch J w5 w' ∧ ∃ F' H' J', C3 CC CK w1 w' p q vc vs vw what most (tickC p what most d) (tickK p p.spans k).1 (tickC q what most e) cb kb eb F' H' J' := by
  have hp := (carE_zero hcp).1
  refine (CC.tick hG h.c hcp hd t1).mono ?_
  rintro r w2 ⟨rfl, F', hc2, tk2, hF'⟩
  have s2 := tk2.size
  have hk2 := CK.frame h.k tk2 (fun m hm => ⟨h.a1 m hm, (CC.ge h.c m hm).1⟩)
  have he2 := CC.frame h.e tk2 (fun m hm => ⟨h.a2 m hm, (CC.ge h.c m hm).1⟩)
  have b1 : ∀ g ∈ F', g ∉ H := fun g hg hm => by
    rcases hF' g hg with h1 | h1
    · exact h.a1 g h1 hm
    · have := (CK.ge h.k g hm).2
      omega
  have b2 : ∀ g ∈ F', g ∉ J := fun g hg hm => by
    rcases hF' g hg with h1 | h1
    · exact h.a2 g h1 hm
    · have := (CC.ge h.e g hm).2
      omega
  refine ⟨rfl, tk2, fun w3 hb3 => ?_⟩
  have s3 := hb3.size
  have hc3 := CC.frame hc2 (KTouch.of (M := []) hb3) (by simp)
  have hk3 := CK.frame hk2 (KTouch.of (M := []) hb3) (by simp)
  have he3 := CC.frame he2 (KTouch.of (M := []) hb3) (by simp)
  refine (CK.tick hG hk3 hp hk t2).mono ?_
  rintro r w4 ⟨rfl, H', hk4, tk4, hH'⟩
  have s4 := tk4.size
  have hc4 := CC.frame hc3 tk4 (fun m hm => ⟨fun e => b1 m e hm, (CK.ge hk3 m hm).1⟩)
  have he4 := CC.frame he3 tk4 (fun m hm => ⟨h.a3 m hm, (CK.ge hk3 m hm).1⟩)
  have b1' : ∀ g ∈ F', g ∉ H' := fun g hg hm => by
    rcases hH' g hm with h1 | h1
    · exact b1 g hg h1
    · have := (CC.ge hc3 g hg).2
      omega
  have b3 : ∀ g ∈ H', g ∉ J := fun g hg hm => by
    rcases hH' g hg with h1 | h1
    · exact h.a3 g h1 hm
    · have := (CC.ge he3 g hm).2
      omega
  refine ⟨rfl, tk4, fun w5 hb5 => ?_⟩
  have s5 := hb5.size
  have hc5 := CC.frame hc4 (KTouch.of (M := []) hb5) (by simp)
  have hk5 := CK.frame hk4 (KTouch.of (M := []) hb5) (by simp)
  have he5 := CC.frame he4 (KTouch.of (M := []) hb5) (by simp)
  refine (CC.tick hG he5 hcq he t3).mono ?_
  rintro r w' ⟨rfl, J', he6, tk6, hJ'⟩
  refine ⟨⟨_, _, _, _, rfl⟩, tk6, F', H', J', CC.frame hc5 tk6 (fun m hm => ⟨fun e => b2 m e hm, (CC.ge he5 m hm).1⟩), CK.frame hk5 tk6 (fun m hm => ⟨fun e => b3 m e hm, (CC.ge he5 m hm).1⟩), he6, b1', fun g hg hm => ?_, fun g hg hm => ?_⟩
  · rcases hJ' g hm with h1 | h1
    · exact b2 g hg h1
    · have := (CC.ge hc5 g hg).2
      omega
  · rcases hJ' g hm with h1 | h1
    · exact b3 g hg h1
    · have := (CK.ge hk5 g hg).2
      omega
end
/-- What the loop keeps, plain. -/
structure CInv (p : PD) (what : List Int) (most : Int) (r : Nat) (d : CD) (k : KD) (e : CD) (b : Bool) : Prop where
  dok : COk p what most d
  kok : KOk p k
  eok : COk (purgeP p (fun i => way p.wires i r)) what most e
  sim : SimC p.wires (fun i => way p.wires i r) d e
  time : d.k.time = k.time
  nf : b = false → NoneF d.k ∧ d.k = k
theorem purge_carE {p : PD} {what : List Int} {most : Int} (R : Nat → Bool) (h : carE p what most = 0) : carE (purgeP p R) what most = 0 := by
  obtain ⟨h1, h2, h3, h4, h5⟩ := carE_zero h
  have hr := purge_right R h1
  have hl : what.length = (purgeP p R).code.length := by
    show what.length = (purgeC R 0 p.code).length
    rw [purgeC_len]
    exact h2
  have ha : what.any ruleOut = false := by
    rw [List.any_eq_false]
    intro n hn
    have := h3 n hn
    unfold ruleOut
    simp
    omega
  unfold carE
  rw [if_pos hr, if_pos hl, if_neg (by rw [ha]; decide), if_neg (by omega)]
theorem cinv_new {p : PD} {what : List Int} {most : Int} (r : Nat) (h : carE p what most = 0) : CInv p what most r (newC p) (newK p) (newC (purgeP p (fun i => way p.wires i r))) false :=
  ⟨newC_ok h, new_ok (carE_zero h).1, newC_ok (purge_carE _ h), simC_new _ _, rfl, fun _ => ⟨none_new p, rfl⟩⟩
/-- One tick of all three. -/
theorem cinv_tick {p : PD} {what : List Int} {most : Int} {r : Nat} {d : CD} {k : KD} {e : CD} {b : Bool} (hc : carE p what most = 0) (h : CInv p what most r d k e b) :
    CInv p what most r (tickC p what most d) (tickK p p.spans k).1 (tickC (purgeP p (fun i => way p.wires i r)) what most e) (b || decide ((evC p what most d).2.2.2 = 4)) ∧ ((b || decide ((evC p what most d).2.2.2 = 4)) = false → evC p what most d = (tickK p p.spans k).2) := by
  have hp := (carE_zero hc).1
  have hrange : ∀ x ∈ p.wires, 0 ≤ x.1 ∧ x.1 < 5 ∧ 0 ≤ x.2.1 ∧ x.2.1 < 5 := fun x hx => by
    have h1 := (wschk_ok (plchk_zero hp).2.2.2.1).2 x hx
    unfold w4chk wchk at h1
    split at h1
    · rename_i h2
      omega
    · cases h1
  have key : ∀ hb : (b || decide ((evC p what most d).2.2.2 = 4)) = false, helpC p what most d = d ∧ d.k = k ∧ NoneF d.k ∧ (evC p what most d).2.2.2 ≠ 4 := fun hb => by
    rw [Bool.or_eq_false_iff] at hb
    obtain ⟨h1, h2⟩ := h.nf hb.1
    exact ⟨none_help h1, h2, h1, of_decide_eq_false hb.2⟩
  refine ⟨⟨tickC_ok hp h.dok, tick_ok hp h.kok, tickC_ok (purge_right _ hp) h.eok, simC_tick hp h.dok h.eok (way_closed p.wires r (fun x hx b hb => by have := hrange x hx; omega)) (fun x hx => (hrange x hx).1) h.sim, ?_, fun hb => ?_⟩, fun hb => ?_⟩
  · show (tickK p p.spans (helpC p what most d).k).1.time = _
    rw [tick_time, tick_time, help_time, h.time]
  · obtain ⟨h1, h2, h3, h4⟩ := key hb
    have e1 : (tickC p what most d).k = (tickK p p.spans k).1 := by
      show (tickK p p.spans (helpC p what most d).k).1 = _
      rw [h1, h2]
    refine ⟨?_, e1⟩
    rw [e1]
    rw [h2] at h3
    refine none_tick hp h.kok h3 ?_
    unfold evC at h4
    rw [h1, h2] at h4
    exact h4
  · obtain ⟨h1, h2, _, _⟩ := key hb
    unfold evC
    rw [h1, h2]
theorem cinv_room {p : PD} {what : List Int} {most : Int} {r : Nat} {d : CD} {k : KD} {e : CD} {b : Bool} (h : CInv p what most r d k e b) (hr : r < p.code.length) : noRoom d.k r = false ∧ noRoom e.k r = false ∧ roomK e.k r = roomK d.k r ∧ timesC e r = timesC d r := by
  have hR : way p.wires r r = true := way_self _ _
  have n1 : noRoom d.k r = false := by
    unfold noRoom
    rw [h.dok.k.rl, Bool.or_eq_false_iff]
    exact ⟨decide_eq_false (by omega), decide_eq_false (by omega)⟩
  have n2 : noRoom e.k r = false := by
    unfold noRoom
    rw [h.eok.k.rl, Bool.or_eq_false_iff]
    have : (purgeP p (fun i => way p.wires i r)).code.length = p.code.length := purgeC_len _ _ _
    rw [this]
    exact ⟨decide_eq_false (by omega), decide_eq_false (by omega)⟩
  refine ⟨n1, n2, ?_, ?_⟩
  · unfold roomK
    rw [n1, n2, if_neg (by decide), if_neg (by decide), Int.toNat_natCast, List.getD, List.getD, h.sim.k.rooms r hR]
  · unfold timesC
    rw [n1, n2, if_neg (by decide), if_neg (by decide), Int.toNat_natCast, List.getD, List.getD, h.sim.ts r hR]
end Go.Proofs.YtfconbblnmbnpafDoor
