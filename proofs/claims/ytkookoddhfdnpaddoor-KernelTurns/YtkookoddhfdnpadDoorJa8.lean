/-
  FlowOwn, KTurnM, POpen, IntsL, WSame, StEq, KTurns0: joined into one text.
-/
import Derived.Test.YtkookoddhfdnpadDoorJa1
import Derived.Test.YtkookoddhfdnpadDoorJa2
import Derived.Lib.SmallJoins
import Derived.Deep.Slices
import Derived.Laws.StructEq
import Derived.RangeFuncRecord
namespace Go.Proofs.YtkookoddhfdnpadDoor
open Go.RowKit

/-- The cells of wires, one behind the other. -/
def wrCells (l : List W4) : List Value := l.flatMap fun o => [.int .i64 o.1, .int .i64 o.2.1, .int .i64 o.2.2.1, .int .i64 o.2.2.2]
theorem wrCells_snoc (l : List W4) (o : W4) : wrCells (l ++ [o]) = wrCells l ++ [.int .i64 o.1, .int .i64 o.2.1, .int .i64 o.2.2.1, .int .i64 o.2.2.2] := by simp [wrCells]
theorem wrCells_len : ∀ (l : List W4), (wrCells l).length = l.length * 4
  | [] => rfl
  | x :: l => by
    have := wrCells_len l
    have e : wrCells (x :: l) = [.int .i64 x.1, .int .i64 x.2.1, .int .i64 x.2.2.1, .int .i64 x.2.2.2] ++ wrCells l := by simp [wrCells]
    rw [e, List.length_append, this]
    simp
    omega
theorem wrCells_one (l : List W4) : ∀ u ∈ wrCells l, u.oneCell' = true := by
  intro u hu
  simp only [wrCells, List.mem_flatMap] at hu
  obtain ⟨o, _, hu⟩ := hu
  simp at hu
  rcases hu with rfl | rfl | rfl | rfl <;> rfl
theorem wrCells_at : ∀ (l : List W4) (i : Nat) (o : W4), l[i]? = some o → (wrCells l)[i * 4]? = some (.int .i64 o.1) ∧ (wrCells l)[i * 4 + 1]? = some (.int .i64 o.2.1) ∧ (wrCells l)[i * 4 + 2]? = some (.int .i64 o.2.2.1) ∧ (wrCells l)[i * 4 + 3]? = some (.int .i64 o.2.2.2)
  | [], i, o, h => by simp at h
  | x :: l, 0, o, h => by
    simp at h
    subst h
    simp [wrCells]
  | x :: l, i + 1, o, h => by
    have := wrCells_at l i o (by simpa using h)
    have e : wrCells (x :: l) = [.int .i64 x.1, .int .i64 x.2.1, .int .i64 x.2.2.1, .int .i64 x.2.2.2] ++ wrCells l := by simp [wrCells]
    rw [e]
    refine ⟨?_, ?_, ?_, ?_⟩
    · rw [List.getElem?_append_right (by simp; omega)]
      simpa [show (i + 1) * 4 - 4 = i * 4 by omega] using this.1
    · rw [List.getElem?_append_right (by simp; omega)]
      simpa [show (i + 1) * 4 + 1 - 4 = i * 4 + 1 by omega] using this.2.1
    · rw [List.getElem?_append_right (by simp; omega)]
      simpa [show (i + 1) * 4 + 2 - 4 = i * 4 + 2 by omega] using this.2.2.1
    · rw [List.getElem?_append_right (by simp; omega)]
      simpa [show (i + 1) * 4 + 3 - 4 = i * 4 + 3 by omega] using this.2.2.2
theorem wrs_of_own {w : World} {base : Nat} {v : Value} {l : List W4} (h : w.ownsRow base 23 4 v l.length (wrCells l)) : Wrs w v l := by
  have hl := h.lt
  have hcs := @World.ownsRow.cells _ _ _ _ _ _ _ h
  rcases h.2 with ⟨rfl, h0⟩ | ⟨g, cap, cur, rfl, _, _, hcap, _⟩
  · exact Or.inl ⟨List.eq_nil_of_length_eq_zero h0, _, _, rfl⟩
  · have hat : ∀ j u, (wrCells l)[j]? = some u → w.cell? ⟨g, j, none⟩ = some u := fun j u hu => by
      have := hcs rfl j u hu
      unfold Addr.add at this
      split at this
      · rename_i h0; subst h0; exact this
      · simpa using this
    refine Or.inr ⟨g, 0, cap, rfl, hcap, (hl g rfl).2, fun i o ho => ?_⟩
    obtain ⟨h1, h2, h3, h4⟩ := wrCells_at l i o ho
    exact ⟨by simpa using hat _ _ h1, by simpa using hat _ _ h2, by simpa using hat _ _ h3, by simpa using hat _ _ h4⟩
theorem infoWr : (Tryd.prog.info? 23).map (fun i => (i.zero, i.size, i.bytes)) = some (some (.agg #[.int .i64 0, .int .i64 0, .int .i64 0, .int .i64 0]), 4, 32) := by kernel_rfl
theorem wr_new {w : World} {k : Nat} (hk : k = w.heap.size) (x y z u : Value) (t : TypeId) : ∀ j q, [x, y, z, u][j]? = some q → (w.alloc (.cells #[x, y, z, u] t)).cell? ((⟨k, 0, none⟩ : Addr).add j) = some q := by
  subst hk
  intro j q hj
  match j, hj with
  | 0, hj => simp at hj; subst hj; simp [Addr.add]
  | 1, hj => simp at hj; subst hj; simp [Addr.add]
  | 2, hj => simp at hj; subst hj; simp [Addr.add]
  | 3, hj => simp at hj; subst hj; simp [Addr.add]
theorem four_one (a b c d : Int) : ∀ u ∈ [Value.int .i64 a, .int .i64 b, .int .i64 c, .int .i64 d], u.oneCell' = true := by
  intro u hu
  simp at hu
  rcases hu with rfl | rfl | rfl | rfl <;> rfl
theorem own4_form {w : World} {base : Nat} {e : TypeId} {size : Nat} {v : Value} {n : Nat} {xs : List Value} (R : w.ownsRow base e size v n xs) : ∃ g cap, v = .slice g n cap := by
  rcases R.2 with ⟨h, h0⟩ | ⟨g, cap, cur, h, _⟩
  · exact ⟨_, _, by rw [h0]; exact h⟩
  · exact ⟨_, _, h⟩
end Go.Proofs.YtkookoddhfdnpadDoor
namespace Go.Proofs.YtkookoddhfdnpadDoor

/-- A kernel behind so many ticks. -/
def kT (p : PD) : Nat → KD
  | 0 => newK p
  | t + 1 => (tickK p p.spans (kT p t)).1
theorem kT_time (p : PD) : ∀ t, (kT p t).time = t
  | 0 => rfl
  | t + 1 => by
    show (tickK p p.spans (kT p t)).1.time = _
    rw [tick_time, kT_time p t]
    omega
theorem kT_ok {p : PD} (hp : plchk p = 0) : ∀ t, KOk p (kT p t)
  | 0 => new_ok hp
  | t + 1 => tick_ok hp (kT_ok hp t)
/-- Whose turn it is. -/
def whoK (p : PD) (k : KD) : Int := hold p.spans (k.time % p.ticks)
theorem tick_told (p : PD) (k : KD) : (tickK p p.spans k).2.1 = k.time ∧ (tickK p p.spans k).2.2.1 = whoK p k := by
  unfold tickK whoK
  simp only
  split
  · exact ⟨rfl, rfl⟩
  · exact ⟨rfl, rfl⟩
/-- No room but the one whose turn it is. -/
theorem tick_room {p : PD} {k : KD} {r : Nat} (hr : (r : Int) ≠ whoK p k) : (tickK p p.spans k).1.rooms[r]? = k.rooms[r]? := by
  unfold whoK at hr
  unfold tickK
  simp only
  split
  · rfl
  · rename_i h
    show (k.rooms.set _ _)[r]? = _
    rw [List.getElem?_set_ne (by omega)]
/-- No wire but those of it. -/
theorem tick_line {p : PD} {k : KD} (hp : plchk p = 0) (hk : KOk p k) {i : Nat} {x : W4} (hx : p.wires[i]? = some x) (h1 : x.1 ≠ whoK p k) (h2 : x.2.1 ≠ whoK p k) : (tickK p p.spans k).1.lines[i]? = k.lines[i]? := by
  have hw := (who_room hp (k.time % p.ticks)).2
  unfold whoK at h1 h2
  unfold tickK
  simp only
  split
  · rfl
  · rename_i h
    obtain ⟨rn, hrn⟩ : ∃ n : Nat, hold p.spans (k.time % p.ticks) = n := ⟨(hold p.spans (k.time % p.ticks)).toNat, by omega⟩
    rw [hrn] at h1 h2 hw ⊢
    have hlt : rn < p.code.length := by simpa using hw (by omega)
    obtain ⟨c, s, o, ht⟩ := turn_of hp hk hlt
    obtain ⟨e1, e2, e3⟩ := ht.at
    rw [Int.toNat_natCast]
    unfold turnK
    simp only [e1, e2, e3]
    have hop := op_wire hp ht.hc (List.mem_of_getElem? ht.ho)
    have hT : (linesT k o s)[i]? = k.lines[i]? := by
      unfold linesT
      split
      · rename_i htk
        have h9 : o.1 = 9 := by
          unfold takesB at htk
          simp only [Bool.and_eq_true, decide_eq_true_eq] at htk
          exact htk.2
        obtain ⟨y, hy, hy2⟩ := hop.2 h9
        refine List.getElem?_set_ne (fun e => ?_)
        rw [e, hx] at hy
        obtain rfl := Option.some.inj hy
        exact h2 hy2
      · rfl
    rw [← hT]
    unfold linesS
    split
    · rename_i hs
      have h8 := ((sendK_range ht).2.2 hs).1
      obtain ⟨y, hy, hy2⟩ := hop.1 h8
      refine List.getElem?_set_ne (fun e => ?_)
      rw [e, hx] at hy
      obtain rfl := Option.some.inj hy
      exact h1 hy2
    · rfl
end Go.Proofs.YtkookoddhfdnpadDoor
namespace Go.Proofs.YtkookoddhfdnpadDoor
open Go.ChangeShapes Go.WideShapes Go.ChangeAt Go.WideElems Go.RowKit Go.Deep

theorem pk_spot {W : World} {a : Addr} {v : Value} (h : W.cell? a = some v) : a = ⟨a.block, a.off, none⟩ ∧ a.block < W.heap.size := by
  obtain ⟨b, o, s⟩ := a
  unfold World.cell? at h
  simp only at h
  cases hb : W.heap[b]? with
  | none => rw [hb] at h; cases h
  | some x =>
    rw [hb] at h
    refine ⟨?_, (Array.getElem?_eq_some_iff.1 hb).1⟩
    cases x <;> simp at h
    cases s with
    | none => rfl
    | some s => simp at h
theorem pk_lt {α : Type} [Inhabited α] {p : Nat → α → Prop} {n : Nat} (h : ∀ i, i < n → ∃ x, p i x) : ∃ f : Nat → α, ∀ i, i < n → p i (f i) := by
  refine ⟨fun i => if hi : i < n then (h i hi).choose else default, fun i hi => ?_⟩
  simp only [hi, dif_pos]
  exact (h i hi).choose_spec
/-- A slice read as data, at the level of its cell. -/
theorem pk_slice {α : Type} [Inhabited α] {H : Type} {enc : TypeId × Value → H} {P : Program} {W : World} {base : Nat} {sp : Nat → Bool} {held : Bool} {fuel : Nat} {cs : List Value} {x : DataW H × List MemPlace} {t e : TypeId} {k : Nat}
    (ht : P.underlying t = some (.slice e)) (hk : P.cellsOf e = k) (hk0 : 0 < k) (R : List Value → α → Prop)
    (hel : ∀ (n : Nat) (cs : List Value) (x : DataW H × List MemPlace), DataW.trod enc P W base sp held n e cs = some x → ∃ o, R cs o)
    (h : DataW.trod enc P W base sp held fuel t cs = some x) :
    ∃ a len cap, cs = [.slice a len cap] ∧ (len = 0 ∨ ∃ b off, a = some ⟨b, off, none⟩ ∧ len ≤ cap ∧ b < W.heap.size ∧ ∃ l : List α, l.length = len ∧ ∀ i o, l[i]? = some o → ∃ us, us.length = k ∧ R us o ∧ ∀ j, j < k → W.cell? ⟨b, off + i * k + j, none⟩ = us[j]?) := by
  rcases open_slice ht h with ⟨rfl, _⟩ | ⟨a, len, cap, m, n, D, Pl, rfl, _, hl, _, hm, _, he⟩
  · exact ⟨none, 0, 0, rfl, Or.inl rfl⟩
  · refine ⟨some a, len, cap, rfl, ?_⟩
    have hlm : len ≤ m := by rw [hm]; split <;> omega
    by_cases h0 : len = 0
    · exact Or.inl h0
    · rw [hk] at he
      obtain ⟨F, hF⟩ := pk_lt (α := α × List Value) (p := fun i o => o.2.length = k ∧ R o.2 o.1 ∧ ∀ j, j < k → W.cell? ((a.add (i * k)).add j) = o.2[j]?) (n := len) (fun i hi => by
        obtain ⟨us, h1, h2⟩ := he i (by omega)
        obtain ⟨o, ho⟩ := hel _ _ _ h2
        obtain ⟨_, h3, h4⟩ := World.cells?_some h1
        exact ⟨(o, us), h3, ho, h4⟩)
      obtain ⟨l0, _, c0⟩ := hF 0 (by omega)
      have hz := c0 0 hk0
      rw [show (a.add (0 * k)).add 0 = a from by simp [Addr.add], List.getElem?_eq_getElem (by omega)] at hz
      obtain ⟨ha, hlt⟩ := pk_spot hz
      refine Or.inr ⟨a.block, a.off, by rw [← ha], hl, hlt, (List.range len).map (fun i => (F i).1), by simp, fun i o ho => ?_⟩
      have hi : i < len := by
        have := (List.getElem?_eq_some_iff.1 ho).1
        simpa using this
      have hoi : (F i).1 = o := by simpa [hi] using ho
      obtain ⟨h1, h2, h3⟩ := hF i hi
      refine ⟨(F i).2, h1, hoi ▸ h2, fun j hj => ?_⟩
      have := h3 j hj
      rw [ha] at this
      simp only [Addr.add_lit] at this
      exact this
theorem pcInt : Tryd.prog.cellsOf 3 = 1 := by kernel_rfl
theorem pcOp : Tryd.prog.cellsOf 25 = 3 := by kernel_rfl
theorem pcSpan : Tryd.prog.cellsOf 42 = 3 := by kernel_rfl
theorem pcWire : Tryd.prog.cellsOf 23 = 4 := by kernel_rfl
theorem pcOps : Tryd.prog.cellsOf 26 = 1 := by kernel_rfl
section
variable {H : Type} {enc : TypeId × Value → H} {W : World} {base : Nat} {sp : Nat → Bool} {held : Bool}
set_option maxRecDepth 100000 in
theorem pk_op (n : Nat) (cs : List Value) (x : DataW H × List MemPlace) (h : DataW.trod enc Tryd.prog W base sp held n 25 cs = some x) : ∃ o : O3, cs = [.int .i64 o.1, .int .i64 o.2.1, .int .i64 o.2.2] := by
  obtain ⟨y0, y1, y2, n, _, hl, h0, h1, h2⟩ := trod_struct3 Tryd.underlying25 h
  rw [pcOp] at hl
  match cs, hl with
  | [c0, c1, c2], _ =>
    simp only [pcInt] at h0 h1 h2
    simp at h0 h1 h2
    obtain ⟨n, e0, _, _⟩ := DataW.trod_int Tryd.underlying3 h0
    obtain ⟨a, e1, _, _⟩ := DataW.trod_int Tryd.underlying3 h1
    obtain ⟨b, e2, _, _⟩ := DataW.trod_int Tryd.underlying3 h2
    simp only [List.cons.injEq, and_true] at e0 e1 e2
    subst e0; subst e1; subst e2
    exact ⟨(n, a, b), rfl⟩
set_option maxRecDepth 100000 in
theorem pk_span (n : Nat) (cs : List Value) (x : DataW H × List MemPlace) (h : DataW.trod enc Tryd.prog W base sp held n 42 cs = some x) : ∃ o : S3, cs = [.int .i64 o.1, .int .i64 o.2.1, .int .i64 o.2.2] := by
  obtain ⟨y0, y1, y2, n, _, hl, h0, h1, h2⟩ := trod_struct3 Tryd.underlying42 h
  rw [pcSpan] at hl
  match cs, hl with
  | [c0, c1, c2], _ =>
    simp only [pcInt] at h0 h1 h2
    simp at h0 h1 h2
    obtain ⟨n, e0, _, _⟩ := DataW.trod_int Tryd.underlying3 h0
    obtain ⟨a, e1, _, _⟩ := DataW.trod_int Tryd.underlying3 h1
    obtain ⟨b, e2, _, _⟩ := DataW.trod_int Tryd.underlying3 h2
    simp only [List.cons.injEq, and_true] at e0 e1 e2
    subst e0; subst e1; subst e2
    exact ⟨(n, a, b), rfl⟩
set_option maxRecDepth 100000 in
theorem pk_wire (n : Nat) (cs : List Value) (x : DataW H × List MemPlace) (h : DataW.trod enc Tryd.prog W base sp held n 23 cs = some x) : ∃ o : W4, cs = [.int .i64 o.1, .int .i64 o.2.1, .int .i64 o.2.2.1, .int .i64 o.2.2.2] := by
  obtain ⟨y0, y1, y2, y3, n, _, hl, h0, h1, h2, h3⟩ := Joins.trod_struct4 Tryd.underlying23 h
  rw [pcWire] at hl
  match cs, hl with
  | [c0, c1, c2, c3], _ =>
    simp only [pcInt] at h0 h1 h2 h3
    simp at h0 h1 h2 h3
    obtain ⟨n, e0, _, _⟩ := DataW.trod_int Tryd.underlying3 h0
    obtain ⟨a, e1, _, _⟩ := DataW.trod_int Tryd.underlying3 h1
    obtain ⟨b, e2, _, _⟩ := DataW.trod_int Tryd.underlying3 h2
    obtain ⟨c, e3, _, _⟩ := DataW.trod_int Tryd.underlying3 h3
    simp only [List.cons.injEq, and_true] at e0 e1 e2 e3
    subst e0; subst e1; subst e2; subst e3
    exact ⟨(n, a, b, c), rfl⟩
theorem pk_ops (n : Nat) (cs : List Value) (x : DataW H × List MemPlace) (h : DataW.trod enc Tryd.prog W base sp held n 26 cs = some x) : ∃ l : List O3, ∃ u, cs = [u] ∧ Ops W u l := by
  obtain ⟨a, len, cap, rfl, hr⟩ := pk_slice (α := O3) Tryd.underlying26 pcOp (by decide) (fun cs o => cs = [.int .i64 o.1, .int .i64 o.2.1, .int .i64 o.2.2]) pk_op h
  rcases hr with rfl | ⟨b, off, rfl, _, hlt, l, rfl, hl⟩
  · exact ⟨[], _, rfl, Or.inl ⟨rfl, _, _, rfl⟩⟩
  · refine ⟨l, _, rfl, Or.inr ⟨b, off, cap, rfl, hlt, fun i o ho => ?_⟩⟩
    obtain ⟨us, _, rfl, hc⟩ := hl i o ho
    exact ⟨hc 0 (by omega), hc 1 (by omega), hc 2 (by omega)⟩
theorem pk_sps (n : Nat) (cs : List Value) (x : DataW H × List MemPlace) (h : DataW.trod enc Tryd.prog W base sp held n 29 cs = some x) : ∃ l : List S3, ∃ u, cs = [u] ∧ Sps W u l := by
  obtain ⟨a, len, cap, rfl, hr⟩ := pk_slice (α := S3) Tryd.underlying29 pcSpan (by decide) (fun cs o => cs = [.int .i64 o.1, .int .i64 o.2.1, .int .i64 o.2.2]) pk_span h
  rcases hr with rfl | ⟨b, off, rfl, hcap, hlt, l, rfl, hl⟩
  · exact ⟨[], _, rfl, Or.inl ⟨rfl, _, _, rfl⟩⟩
  · refine ⟨l, _, rfl, Or.inr ⟨b, off, cap, rfl, hcap, hlt, fun i o ho => ?_⟩⟩
    obtain ⟨us, _, rfl, hc⟩ := hl i o ho
    exact ⟨hc 0 (by omega), hc 1 (by omega), hc 2 (by omega)⟩
theorem pk_wrs (n : Nat) (cs : List Value) (x : DataW H × List MemPlace) (h : DataW.trod enc Tryd.prog W base sp held n 28 cs = some x) : ∃ l : List W4, ∃ u, cs = [u] ∧ Wrs W u l := by
  obtain ⟨a, len, cap, rfl, hr⟩ := pk_slice (α := W4) Tryd.underlying28 pcWire (by decide) (fun cs o => cs = [.int .i64 o.1, .int .i64 o.2.1, .int .i64 o.2.2.1, .int .i64 o.2.2.2]) pk_wire h
  rcases hr with rfl | ⟨b, off, rfl, hcap, hlt, l, rfl, hl⟩
  · exact ⟨[], _, rfl, Or.inl ⟨rfl, _, _, rfl⟩⟩
  · refine ⟨l, _, rfl, Or.inr ⟨b, off, cap, rfl, hcap, hlt, fun i o ho => ?_⟩⟩
    obtain ⟨us, _, rfl, hc⟩ := hl i o ho
    exact ⟨hc 0 (by omega), hc 1 (by omega), hc 2 (by omega), hc 3 (by omega)⟩
theorem pk_cds (n : Nat) (cs : List Value) (x : DataW H × List MemPlace) (h : DataW.trod enc Tryd.prog W base sp held n 27 cs = some x) : ∃ l : List (List O3), ∃ u, cs = [u] ∧ Cds W u l := by
  obtain ⟨a, len, cap, rfl, hr⟩ := pk_slice (α := List O3) Tryd.underlying27 pcOps (by decide) (fun cs l => ∃ u, cs = [u] ∧ Ops W u l) pk_ops h
  rcases hr with rfl | ⟨b, off, rfl, hcap, hlt, l, rfl, hl⟩
  · exact ⟨[], _, rfl, Or.inl ⟨rfl, _, _, rfl⟩⟩
  · refine ⟨l, _, rfl, Or.inr ⟨b, off, cap, rfl, hcap, hlt, fun i c hc => ?_⟩⟩
    obtain ⟨us, _, ⟨u, rfl, hu⟩, hc⟩ := hl i c hc
    have := hc 0 (by omega)
    exact ⟨u, by simpa using this, hu⟩
set_option maxRecDepth 100000 in
/-- A plan that came in. -/
theorem open_plan {b0 : Nat} {r : Reach} {v : Value} {d : DataW H} {p : List MemPlace} (hv : Value.okWide Tryd.prog W r b0 31 v)
    (h : DataW.Trod enc Tryd.prog W base sp held 31 v d p) : ∃ (vc vs vw : Value) (p : PD), v = plV vc p.ticks vs vw ∧ Pln W vc vs vw p := by
  obtain ⟨v0, v1, v2, v3, y0, y1, y2, y3, m, rfl, _, _, h0, h1, h2, h3⟩ := Joins.open_agg4 Tryd.underlying31 (by kernel_rfl) (by kernel_rfl) hv h
  obtain ⟨cs, u0, e0, g0⟩ := pk_cds _ _ _ h0
  obtain ⟨n, e1, _, _⟩ := DataW.trod_int Tryd.underlying3 h1
  obtain ⟨ss, u2, e2, g2⟩ := pk_sps _ _ _ h2
  obtain ⟨ws, u3, e3, g3⟩ := pk_wrs _ _ _ h3
  simp only [List.cons.injEq, and_true] at e0 e1 e2 e3
  subst e0; subst e1; subst e2; subst e3
  exact ⟨_, _, _, ⟨cs, n, ss, ws⟩, rfl, g0, g2, g3⟩
end
end Go.Proofs.YtkookoddhfdnpadDoor
namespace Go.Proofs.YtkookoddhfdnpadDoor
open Go.RowKit
set_option maxRecDepth 1000000 in
set_option maxHeartbeats 4000000 in
theorem wints_some (zs : List Int) (a ao b bo : Nat) (ac bc : Nat) (w : World) (ha : a < w.heap.size) (hb : b < w.heap.size) (hl : zs.length ≤ 1000000)
    (hca : ∀ (i : Nat) z, zs[i]? = some z → w.cell? ⟨a, ao + i, none⟩ = some (.int .i64 z)) (hcb : ∀ (i : Nat) z, zs[i]? = some z → w.cell? ⟨b, bo + i, none⟩ = some (.int .i64 z)) :
    Calls Tryd.prog 33 #[.slice (some ⟨a, ao, none⟩) zs.length ac, .slice (some ⟨b, bo, none⟩) zs.length bc] w fun e w' => e = .returned (.bool true) ∧ Below w.heap.size w w' := by
  go_enter Tryd.func33, Tryd.ntmps33
  go_wp2
  go_loopw [5] (fun i wr => ∃ k : Nat, k ≤ zs.length ∧ i = .int .i64 k ∧ Below w.heap.size w wr) (fun i _ => zs.length - (intOf i).toNat)
  case atStart => exact ⟨0, Nat.zero_le _, rfl, Below.refl _ _⟩
  case round =>
    obtain ⟨k, hk, rfl, hbw⟩ := hrel
    by_cases hkl : k < zs.length
    · obtain ⟨z, hz⟩ : ∃ z, zs[k]? = some z := ⟨zs[k], List.getElem?_eq_getElem hkl⟩
      have c0 := (hbw.cell (p := ⟨a, ao + k, none⟩) ha).trans (hca k z hz)
      have c1 := (hbw.cell (p := ⟨b, bo + k, none⟩) hb).trans (hcb k z hz)
      clear hz
      have hki : (k : Int) < (zs.length : Int) := by omega
      go_wp2
      go_quiet (fail)
      go_wp2
      go_roundw
      case rel => exact ⟨k + 1, by omega, by go_num, below_dN hbw _⟩
      case measure => simp [intOf]; omega
    · go_wp2
      go_ret
      exact ⟨rfl, hbw⟩
set_option maxRecDepth 1000000 in
set_option maxHeartbeats 4000000 in
theorem wints_nil (a b : Option Addr) (ac bc : Nat) (w : World) :
    Calls Tryd.prog 33 #[.slice a 0 ac, .slice b 0 bc] w fun e w' => e = .returned (.bool true) ∧ Below w.heap.size w w' := by
  go_enter Tryd.func33, Tryd.ntmps33
  go_wp2
  refine wp_loop_rounds 1 ?_
  rw [rounds_succ]
  go_wp2
  go_ret
  exact ⟨rfl, Below.refl _ _⟩
theorem wints_any (va vb : Value) (zs : List Int) (w : World) (ha : Rd w va zs) (hb : Rd w vb zs) (hl : zs.length ≤ 1000000) :
    Calls Tryd.prog 33 #[va, vb] w fun e w' => e = .returned (.bool true) ∧ Below w.heap.size w w' := by
  rcases ha with ⟨rfl, ao, ac, rfl⟩ | ⟨a, ao, ac, rfl, _, _, ha, hca⟩
  · rcases hb with ⟨_, bo, bc, rfl⟩ | ⟨b, bo, bc, rfl, _, _, hb, hcb⟩
    · exact wints_nil _ _ _ _ w
    · exact wints_nil _ _ _ _ w
  · rcases hb with ⟨rfl, bo, bc, rfl⟩ | ⟨b, bo, bc, rfl, _, _, hb, hcb⟩
    · exact wints_nil _ _ _ _ w
    · exact wints_some zs a ao b bo ac bc w ha hb hl hca hcb
end Go.Proofs.YtkookoddhfdnpadDoor
namespace Go.Proofs.YtkookoddhfdnpadDoor
open Go.RowKit

set_option maxRecDepth 1000000 in
set_option maxHeartbeats 4000000 in
theorem wheld_any (va vb : Value) (zs : List Int) (ls : Int) (w : World) (ha : Rd w va zs) (hb : Rd w vb zs) (hl : zs.length ≤ 1000000) :
    Calls Tryd.prog 15 #[.agg #[va, .int .i64 ls], .agg #[vb, .int .i64 ls]] w fun e w' => e = .returned (.bool true) ∧ Below w.heap.size w w' := by
  obtain ⟨aa, ac, rfl⟩ := ha.form
  obtain ⟨ba, bc, rfl⟩ := hb.form
  have hA : Below w.heap.size w ((w.alloc (.cells #[.slice aa zs.length ac, .int .i64 ls] 58)).alloc (.cells #[.slice ba zs.length bc, .int .i64 ls] 58)) := ((Below.refl _ _).alloc (Nat.le_refl _) _).alloc (by simp) _
  have h := wints_any _ _ zs _ (ha.all hA) (hb.all hA) hl
  clear ha hb
  go_enter Tryd.func15, Tryd.ntmps15
  go_wp2_with (go_at_call 33; refine h.mono ?_; rintro e w1 ⟨rfl, b1⟩; clear h)
  go_ret
  exact ⟨rfl, hA.trans (b1.mono hA.size)⟩
end Go.Proofs.YtkookoddhfdnpadDoor
namespace Go.Proofs.YtkookoddhfdnpadDoor
open Go.RowKit

theorem fieldsSt : Tryd.prog.underlying 48 = some (.struct (Tryd.prog.fieldsOf 48)) := by kernel_rfl
theorem stoodSt : Tryd.prog.stoodInHeld 48 = false := by kernel_rfl
theorem guardSt : Tryd.prog.eqGuardType Tryd.prog.depth 48 = false := by kernel_rfl
theorem fieldsStIs : Tryd.prog.fieldsOf 48 = #[{ name := "At", type := 3, offset := 0, embedded := false, tag := "", pkgPath := "", byteOffset := 0 }, { name := "Cells", type := 46, offset := 1, embedded := false, tag := "", pkgPath := "", byteOffset := 8 }, { name := "Failed", type := 4, offset := 7, embedded := false, tag := "", pkgPath := "", byteOffset := 56 }] := by kernel_rfl
theorem eqIn_six (a b c d e f : Int) (w : World) : (Op.equalIn 9999 46 (.agg #[.int .i64 a, .int .i64 b, .int .i64 c, .int .i64 d, .int .i64 e, .int .i64 f]) (.agg #[.int .i64 a, .int .i64 b, .int .i64 c, .int .i64 d, .int .i64 e, .int .i64 f])).run Tryd.prog w = .ok true w := by
  obtain ⟨n, hn⟩ : ∃ n, n + 1 = 9999 := ⟨9998, rfl⟩
  obtain ⟨m, hm⟩ : ∃ m, n = m + 1 := ⟨9997, by omega⟩
  rw [← hn]
  clear hn
  have hq : ∀ (x : Int) (w : World), (Op.equalIn n 3 (.int .i64 x) (.int .i64 x)).run Tryd.prog w = .ok true w := fun x w => by
    rw [hm, run_equalIn_int w m 3 .i64 .i64 x x Tryd.underlying3]
    simp
  clear hm
  simp only [Op.equalIn, Sem.run_bind, run_underlying Tryd.underlying46, Result.andThen_ok]
  simp [List.range', go_sem, hq]
theorem eqIn_st (p a b c d e f : Int) (g : Bool) (w : World) : (Op.equalIn 10000 48 (.agg #[.int .i64 p, .int .i64 a, .int .i64 b, .int .i64 c, .int .i64 d, .int .i64 e, .int .i64 f, .bool g]) (.agg #[.int .i64 p, .int .i64 a, .int .i64 b, .int .i64 c, .int .i64 d, .int .i64 e, .int .i64 f, .bool g])).run Tryd.prog w = .ok true w := by
  rw [run_equalIn_agg _ _ _ _ _ fieldsSt stoodSt, fieldsStIs]
  simp [go_sem, Tryd.underlying3, Tryd.underlying4, eqIn_six]
theorem eql_st (p a b c d e f : Int) (g : Bool) (w : World) : (binOp .eql 48 (.agg #[.int .i64 p, .int .i64 a, .int .i64 b, .int .i64 c, .int .i64 d, .int .i64 e, .int .i64 f, .bool g]) (.agg #[.int .i64 p, .int .i64 a, .int .i64 b, .int .i64 c, .int .i64 d, .int .i64 e, .int .i64 f, .bool g])).run Tryd.prog w = .ok (.bool true) w := by
  rw [run_eql_struct, eqIn_st]
  rfl
theorem neq_st (p a b c d e f : Int) (g : Bool) (w : World) : (binOp .neq 48 (.agg #[.int .i64 p, .int .i64 a, .int .i64 b, .int .i64 c, .int .i64 d, .int .i64 e, .int .i64 f, .bool g]) (.agg #[.int .i64 p, .int .i64 a, .int .i64 b, .int .i64 c, .int .i64 d, .int .i64 e, .int .i64 f, .bool g])).run Tryd.prog w = .ok (.bool false) w := by
  rw [run_neq_struct, eqIn_st]
  rfl
end Go.Proofs.YtkookoddhfdnpadDoor
namespace Go.Proofs.YtkookoddhfdnpadDoor
open Go.RowKit

/-- The law's own plan: one room that sets a cell, every second tick. -/
def toyP : PD := ⟨[[(1, 2, 7)]], 2, [(0, 1, 0)], []⟩
theorem toy_ok : plchk toyP = 0 := by decide +kernel
theorem toy_first : (tickK toyP toyP.spans (kT toyP 0)).2 = (0, 0, 0, 0) := by decide +kernel
theorem toy_state : (roomK (kT toyP 1) 0).c 2 = 7 ∧ noRoom (kT toyP 1) 0 = false := by decide +kernel
theorem toy_next : (tickK toyP toyP.spans (kT toyP 1)).2.2.1 = -1 := by decide +kernel
/-- It lies in the world. -/
theorem toy_pln (W : World) (n : Nat) (hn : n = W.heap.size) : Pln (((W.alloc (.cells #[.int .i64 1, .int .i64 2, .int .i64 7] 25)).alloc (.cells #[.slice (some ⟨n, 0, none⟩) 1 1] 26)).alloc (.cells #[.int .i64 0, .int .i64 1, .int .i64 0] 42)) (.slice (some ⟨n + 1, 0, none⟩) 1 1) (.slice (some ⟨n + 2, 0, none⟩) 1 1) (.slice none 0 0) toyP := by
  subst hn
  refine ⟨Or.inr ⟨_, 0, 1, rfl, Nat.le_refl _, by simp, fun i c hi => ?_⟩, Or.inr ⟨_, 0, 1, rfl, Nat.le_refl _, by simp, fun i s hi => ?_⟩, Or.inl ⟨rfl, _, _, rfl⟩⟩
  · match i, hi with
    | 0, hi =>
      simp [toyP] at hi
      subst hi
      refine ⟨.slice (some ⟨W.heap.size, 0, none⟩) 1 1, by simp [go_sem], Or.inr ⟨W.heap.size, 0, 1, rfl, by simp; omega, fun j o ho => ?_⟩⟩
      match j, ho with
      | 0, ho => simp at ho; subst ho; simp [go_sem]
      | j + 1, ho => simp at ho
    | i + 1, hi => simp [toyP] at hi
  · match i, hi with
    | 0, hi => simp [toyP] at hi; subst hi; simp [go_sem]
    | i + 1, hi => simp [toyP] at hi
/-- The room of an event that is a value. -/
theorem field_room (a b c d : Int) (w : World) : (Instr.field 44 (.agg #[.int .i64 a, .int .i64 b, .int .i64 c, .int .i64 d]) 1).run Tryd.prog w = .ok (.int .i64 b) w := by kernel_rfl
/-- What is held, as cells: the numbers lie where 'u' says. -/
def hdCells (l : List (Value × Int)) : List Value := l.flatMap fun x => [x.1, .int .i64 x.2]
theorem hdCells_snoc (l : List (Value × Int)) (x : Value × Int) : hdCells (l ++ [x]) = hdCells l ++ [x.1, .int .i64 x.2] := by simp [hdCells]
theorem hdCells_at : ∀ (l : List (Value × Int)) (i : Nat) (x : Value × Int), l[i]? = some x → (hdCells l)[i * 2]? = some x.1 ∧ (hdCells l)[i * 2 + 1]? = some (.int .i64 x.2)
  | [], i, x, h => by simp at h
  | y :: l, 0, x, h => by simp at h; subst h; simp [hdCells]
  | y :: l, i + 1, x, h => by
    have h1 := hdCells_at l i x (by simpa using h)
    have e : ∀ j, (hdCells (y :: l))[(i + 1) * 2 + j]? = (hdCells l)[i * 2 + j]? := fun j => by
      show ([y.1, .int .i64 y.2] ++ hdCells l)[(i + 1) * 2 + j]? = _
      rw [List.getElem?_append_right (by simp; omega)]
      congr 1
      simp
      omega
    exact ⟨(e 0).trans h1.1, (e 1).trans h1.2⟩
theorem infoHd : (Tryd.prog.info? 58).map (fun i => (i.zero, i.size, i.bytes)) = some (some (.agg #[.slice none 0 0, .int .i64 0]), 2, 32) := by kernel_rfl
theorem hd_new {w : World} {k : Nat} (hk : k = w.heap.size) (x y : Value) (t : TypeId) : ∀ j u, [x, y][j]? = some u → (w.alloc (.cells #[x, y] t)).cell? ((⟨k, 0, none⟩ : Addr).add j) = some u := by
  intro j u hj
  subst hk
  rw [Addr.add_lit, Nat.zero_add]
  match j, hj with
  | 0, hj => simp at hj; subst hj; simp
  | 1, hj => simp at hj; subst hj; simp
  | j + 2, hj => simp at hj
/-- A row of states that is owned: where each lies. -/
theorem was_at {W : World} {base n : Nat} {v : Value} {l : List St} (h : W.ownsRow base 48 8 v n (stCells l)) (hn : n ≠ 0) : ∃ g cap, v = .slice (some ⟨g, 0, none⟩) n cap ∧ base ≤ g ∧ g < W.heap.size ∧ ∀ (r : Nat) s, l[r]? = some s → StC W g (r * 8) s := by
  rcases h.2 with ⟨_, h3⟩ | ⟨g, cap, cur, h2, h3, h4, _⟩
  · exact absurd h3 hn
  · refine ⟨g, cap, h2, h3, (Array.getElem?_eq_some_iff.1 h4).1, fun r s hs => ?_⟩
    have hc : ∀ j u, (stCells l)[j]? = some u → W.cell? ⟨g, j, none⟩ = some u := fun j u hj => by
      have := h.cells (g := g) (by rw [h2]; rfl) j u hj
      rw [Addr.add_lit, Nat.zero_add] at this
      exact this
    obtain ⟨h0, h1, h2, h3, h4, h5, h6, h7⟩ := stCells_at l r s hs
    exact ⟨hc _ _ h0, hc _ _ h1, hc _ _ h2, hc _ _ h3, hc _ _ h4, hc _ _ h5, hc _ _ h6, hc _ _ h7⟩
/-- What was held, laid by: each with its numbers. -/
structure HRow (k : KD) (B : Nat) (W : World) (v : Value) (l : List (Value × Int)) : Prop where
  own : W.ownsRow B 58 2 v l.length (hdCells l)
  rd : ∀ (i : Nat) x ln, l[i]? = some x → k.lines[i]? = some ln → Rd W x.1 ln.xs ∧ x.2 = ln.ls
  ap : ∀ x ∈ l, ∀ g, x.1.ownBlock = some g → B ≤ g ∧ g < W.heap.size ∧ v.ownBlock ≠ some g
theorem HRow.nil (k : KD) (W : World) : HRow k W.heap.size W (.slice none 0 0) [] := ⟨World.ownsRow_nil _ _ _ _, fun i x ln h => by simp at h, fun x hx => by cases hx⟩
theorem HRow.rlt {k : KD} {B : Nat} {W : World} {v : Value} {l : List (Value × Int)} (h : HRow k B W v l) : ∀ g, v.ownBlock = some g → B ≤ g ∧ g < W.heap.size := fun g hg => by
  rcases h.own.2 with ⟨h2, _⟩ | ⟨g', cap, cur, h2, h3, h4, _⟩
  · rw [h2] at hg
    cases hg
  · rw [h2] at hg
    simp only [Value.ownBlock, Option.some.injEq] at hg
    subst hg
    exact ⟨h3, (Array.getElem?_eq_some_iff.1 h4).1⟩
/-- What is written lies ahead of it. -/
theorem HRow.touch {k : KD} {B : Nat} {W W' : World} {v : Value} {l : List (Value × Int)} (h : HRow k B W v l) {M : List Nat} (ht : KTouch M W W') (hM : ∀ m ∈ M, m < B) : HRow k B W' v l := by
  refine ⟨own_block h.own (fun g hg => ht.block g (h.rlt g hg).2 (fun hm => ?_)), fun i x ln hx hl => ?_, fun x hx g hg => ?_⟩
  · have := hM g hm
    have := (h.rlt g hg).1
    omega
  · obtain ⟨h1, h2⟩ := h.rd i x ln hx hl
    refine ⟨h1.block (fun g hg he => ht.block g hg (fun hm => ?_)) ht.size, h2⟩
    have := hM g hm
    have := (h.ap x (List.mem_of_getElem? hx) g he).1
    omega
  · obtain ⟨h1, h2, h3⟩ := h.ap x hx g hg
    exact ⟨h1, Nat.lt_of_lt_of_le h2 ht.size, h3⟩
/-- One more. -/
theorem HRow.more {k : KD} {B : Nat} {W w7 w8 : World} {v v' u : Value} {l : List (Value × Int)} {ln : LnD} (h : HRow k B W v l) (hB : B ≤ W.heap.size) (hln : k.lines[l.length]? = some ln) (b7 : Below W.heap.size W w7) (hu : Rd w7 u ln.xs) (hf : ∀ g, u.ownBlock = some g → W.heap.size ≤ g ∧ g < w7.heap.size)
    {o1 o2 : Obj} (hg : ((w7.alloc o1).alloc o2).grownBy w8 v.ownBlock) (hown : w8.ownsRow B 58 2 v' (l.length + 1) (hdCells l ++ [u, .int .i64 ln.ls])) (hnew : ∀ g, v'.ownBlock = some g → v.ownBlock = some g ∨ w7.heap.size + 2 ≤ g) : HRow k B w8 v' (l ++ [(u, ln.ls)]) := by
  have hbl : Below w7.heap.size w7 ((w7.alloc o1).alloc o2) := ((Below.refl _ _).alloc (Nat.le_refl _) _).alloc (by simp) _
  have hs2 : ((w7.alloc o1).alloc o2).heap.size = w7.heap.size + 2 := by simp
  have hs8 : w7.heap.size + 2 ≤ w8.heap.size := by have := hg.size; omega
  have hs7 := b7.size
  have hk : ∀ g, g < w7.heap.size → v.ownBlock ≠ some g → w8.heap[g]? = w7.heap[g]? := fun g h1 h2 => (hg.block g (by omega) (fun e => h2 e.symm)).trans (hbl.block g h1)
  have hun : ∀ g, u.ownBlock = some g → v.ownBlock ≠ some g := fun g h1 h2 => by
    have := (hf g h1).1
    have := (h.rlt g h2).2
    omega
  refine ⟨by rw [List.length_append, hdCells_snoc]; exact hown, fun i x ln' hx hl => ?_, fun x hx g hgx => ?_⟩
  · by_cases hil : i < l.length
    · rw [List.getElem?_append_left hil] at hx
      obtain ⟨h1, h2⟩ := h.rd i x ln' hx hl
      refine ⟨(h1.block (fun g hg' he => b7.block g hg') b7.size).block (fun g hg' he => hk g hg' (h.ap x (List.mem_of_getElem? hx) g he).2.2) (by omega), h2⟩
    · have hlt := (List.getElem?_eq_some_iff.1 hx).1
      rw [List.length_append, List.length_singleton] at hlt
      obtain rfl : i = l.length := by omega
      rw [List.getElem?_append_right (Nat.le_refl _), Nat.sub_self] at hx
      simp only [List.getElem?_cons_zero, Option.some.injEq] at hx
      subst hx
      rw [hln] at hl
      obtain rfl := Option.some.inj hl
      exact ⟨hu.block (fun g hg' he => hk g hg' (hun g he)) (by omega), rfl⟩
  · rcases List.mem_append.1 hx with h1 | h1
    · obtain ⟨h2, h3, h4⟩ := h.ap x h1 g hgx
      refine ⟨h2, by omega, fun e => ?_⟩
      rcases hnew g e with h5 | h5
      · exact h4 h5
      · omega
    · rw [List.mem_singleton] at h1
      subst h1
      obtain ⟨h2, h3⟩ := hf g hgx
      refine ⟨by omega, by omega, fun e => ?_⟩
      rcases hnew g e with h5 | h5
      · exact hun g hgx h5
      · omega
/-- Where each lies. -/
theorem HRow.at {k : KD} {B : Nat} {W : World} {v : Value} {l : List (Value × Int)} (h : HRow k B W v l) {i : Nat} (hi : i < l.length) : ∃ g cap x, v = .slice (some ⟨g, 0, none⟩) l.length cap ∧ l[i]? = some x ∧ W.cell? ⟨g, i * 2, none⟩ = some x.1 ∧ W.cell? ⟨g, i * 2 + 1, none⟩ = some (.int .i64 x.2) := by
  rcases h.own.2 with ⟨_, h3⟩ | ⟨g, cap, cur, h2, _⟩
  · omega
  · have hc : ∀ j u, (hdCells l)[j]? = some u → W.cell? ⟨g, j, none⟩ = some u := fun j u hj => by
      have := h.own.cells (g := g) (by rw [h2]; rfl) j u hj
      rw [Addr.add_lit, Nat.zero_add] at this
      exact this
    have hx := List.getElem?_eq_getElem hi
    obtain ⟨h0, h1⟩ := hdCells_at l i _ hx
    exact ⟨g, cap, _, h2, hx, hc _ _ h0, hc _ _ h1⟩
end Go.Proofs.YtkookoddhfdnpadDoor
