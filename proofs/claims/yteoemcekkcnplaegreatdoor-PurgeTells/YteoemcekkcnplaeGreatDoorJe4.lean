/-
  KTurnM, KerC, StRow, StL, POpen, KSet, CloneOp, GClone, SgtMath, SgtCR, PurgeM, PrgCP, PrgC, PTells0, RPurge, RPurge2, SgtRunG, StTwo, PTells: joined into one text.
-/
import Derived.Test.YteoemcekkcnplaeGreatDoorJe3
import Derived.Test.YteoemcekkcnplaeGreatDoorJe1
import Derived.Test.YteoemcekkcnplaeGreatDoorJe2
import Derived.Deep.RegionWith
import Derived.BigQuiet
import Derived.Lib.SmallJoins
import Derived.Deep.Slices
import Derived.Deep.MidRow
import Derived.Deep.RegionLaw
import Derived.Lib.SliceRun
import Derived.RangeFuncRecord
import Derived.Deep.CutRange
import Derived.Deep.CutBlock
import Derived.Deep.RegionHeld3
import Derived.RangeFuncNested
namespace Go.Proofs.YteoemcekkcnplaeGreatDoor

/-- A kernel behind so many ticks. -/
def kT (p : PD) : Nat → KD
  | 0 => newK p
  | t + 1 => (tickK p p.spans (kT p t)).1
theorem kT_time (p : PD) : ∀ t, (kT p t).time = t
  | 0 => rfl
  | t + 1 => by
    show (tickK p p.spans (kT p t)).1.time = _
    rw [tick_time, kT_time p t]
    omega
theorem kT_ok {p : PD} (hp : plchk p = 0) : ∀ t, KOk p (kT p t)
  | 0 => new_ok hp
  | t + 1 => tick_ok hp (kT_ok hp t)
/-- Whose turn it is. -/
def whoK (p : PD) (k : KD) : Int := hold p.spans (k.time % p.ticks)
theorem tick_told (p : PD) (k : KD) : (tickK p p.spans k).2.1 = k.time ∧ (tickK p p.spans k).2.2.1 = whoK p k := by
  unfold tickK whoK
  simp only
  split
  · exact ⟨rfl, rfl⟩
  · exact ⟨rfl, rfl⟩
/-- No room but the one whose turn it is. -/
theorem tick_room {p : PD} {k : KD} {r : Nat} (hr : (r : Int) ≠ whoK p k) : (tickK p p.spans k).1.rooms[r]? = k.rooms[r]? := by
  unfold whoK at hr
  unfold tickK
  simp only
  split
  · rfl
  · rename_i h
    show (k.rooms.set _ _)[r]? = _
    rw [List.getElem?_set_ne (by omega)]
/-- No wire but those of it. -/
theorem tick_line {p : PD} {k : KD} (hp : plchk p = 0) (hk : KOk p k) {i : Nat} {x : W4} (hx : p.wires[i]? = some x) (h1 : x.1 ≠ whoK p k) (h2 : x.2.1 ≠ whoK p k) : (tickK p p.spans k).1.lines[i]? = k.lines[i]? := by
  have hw := (who_room hp (k.time % p.ticks)).2
  unfold whoK at h1 h2
  unfold tickK
  simp only
  split
  · rfl
  · rename_i h
    obtain ⟨rn, hrn⟩ : ∃ n : Nat, hold p.spans (k.time % p.ticks) = n := ⟨(hold p.spans (k.time % p.ticks)).toNat, by omega⟩
    rw [hrn] at h1 h2 hw ⊢
    have hlt : rn < p.code.length := by simpa using hw (by omega)
    obtain ⟨c, s, o, ht⟩ := turn_of hp hk hlt
    obtain ⟨e1, e2, e3⟩ := ht.at
    rw [Int.toNat_natCast]
    unfold turnK
    simp only [e1, e2, e3]
    have hop := op_wire hp ht.hc (List.mem_of_getElem? ht.ho)
    have hT : (linesT k o s)[i]? = k.lines[i]? := by
      unfold linesT
      split
      · rename_i htk
        have h9 : o.1 = 9 := by
          unfold takesB at htk
          simp only [Bool.and_eq_true, decide_eq_true_eq] at htk
          exact htk.2
        obtain ⟨y, hy, hy2⟩ := hop.2 h9
        refine List.getElem?_set_ne (fun e => ?_)
        rw [e, hx] at hy
        obtain rfl := Option.some.inj hy
        exact h2 hy2
      · rfl
    rw [← hT]
    unfold linesS
    split
    · rename_i hs
      have h8 := ((sendK_range ht).2.2 hs).1
      obtain ⟨y, hy, hy2⟩ := hop.1 h8
      refine List.getElem?_set_ne (fun e => ?_)
      rw [e, hx] at hy
      obtain rfl := Option.some.inj hy
      exact h1 hy2
    · rfl
end Go.Proofs.YteoemcekkcnplaeGreatDoor
namespace Go.Proofs.YteoemcekkcnplaeGreatDoor
open Go.RowKit

/-- What package kernel does, in every world of a kind: K w0 w p vc vs vw k kb F: made in the world w0, of the plan p that lay there, a kernel lies at block kb; it is k, and all that it has lies in the blocks F. -/
structure KerC (G : World → Prop) where
  K : World → World → PD → Value → Value → Value → KD → Nat → List Nat → Prop
  all : ∀ w w', G w → Below w.heap.size w w' → G w'
  since : ∀ {w0 w p vc vs vw k kb F}, K w0 w p vc vs vw k kb F → Below w0.heap.size w0 w
  ge : ∀ {w0 w p vc vs vw k kb F}, K w0 w p vc vs vw k kb F → ∀ g ∈ F, w0.heap.size ≤ g ∧ g < w.heap.size
  lower : ∀ {w1 w0 w p vc vs vw k kb F}, Below w1.heap.size w1 w0 → K w0 w p vc vs vw k kb F → K w1 w p vc vs vw k kb F
  frame : ∀ {w0 w w' p vc vs vw k kb F M}, K w0 w p vc vs vw k kb F → KTouch M w w' → (∀ m ∈ M, m ∉ F ∧ w0.heap.size ≤ m) → K w0 w' p vc vs vw k kb F
  new : ∀ (p : PD) (vc vs vw : Value) (W : World), G W → Pln W vc vs vw p → plchk p = 0 → Calls Tryz.prog 38 #[plV vc p.ticks vs vw] W fun e w' => ∃ kb F, e = .returned (.tuple #[.pointer (some ⟨kb, 0, none⟩), .nilIface]) ∧ K W w' p vc vs vw (newK p) kb F
  no : ∀ (p : PD) (vc vs vw : Value) (W : World), G W → Pln W vc vs vw p → plchk p ≠ 0 → Calls Tryz.prog 38 #[plV vc p.ticks vs vw] W fun e w' => ∃ x, e = .returned (.tuple #[.pointer x, wErr (plchk p)]) ∧ Below W.heap.size W w'
  tick : ∀ {w0 W p vc vs vw k kb F}, G w0 → K w0 W p vc vs vw k kb F → plchk p = 0 → KOk p k → k.time < 1000000 → Calls Tryz.prog 40 #[.pointer (some ⟨kb, 0, none⟩)] W fun e w' => e = .returned (evA (tickK p p.spans k).2) ∧ ∃ F', K w0 w' p vc vs vw (tickK p p.spans k).1 kb F' ∧ KTouch F W w' ∧ ∀ g ∈ F', g ∈ F ∨ W.heap.size ≤ g
  state : ∀ {w0 W p vc vs vw k kb F} (r : Int), K w0 W p vc vs vw k kb F → KOk p k → plchk p = 0 → Calls Tryz.prog 39 #[.pointer (some ⟨kb, 0, none⟩), .int .i64 r] W fun e w' => e = .returned (.tuple #[stA (roomK k r), wErr (errB (noRoom k r))]) ∧ Below W.heap.size W w'
end Go.Proofs.YteoemcekkcnplaeGreatDoor
namespace Go.Proofs.YteoemcekkcnplaeGreatDoor
open Go.RowKit

/-- States as cells. -/
def stCells (l : List St) : List Value := l.flatMap fun s => [.int .i64 s.p, .int .i64 (s.c 0), .int .i64 (s.c 1), .int .i64 (s.c 2), .int .i64 (s.c 3), .int .i64 (s.c 4), .int .i64 (s.c 5), .bool s.f]
theorem stCells_snoc (l : List St) (s : St) : stCells (l ++ [s]) = stCells l ++ [.int .i64 s.p, .int .i64 (s.c 0), .int .i64 (s.c 1), .int .i64 (s.c 2), .int .i64 (s.c 3), .int .i64 (s.c 4), .int .i64 (s.c 5), .bool s.f] := by simp [stCells]
theorem stCells_at : ∀ (l : List St) (i : Nat) (s : St), l[i]? = some s → (stCells l)[i * 8]? = some (.int .i64 s.p) ∧ (stCells l)[i * 8 + 1]? = some (.int .i64 (s.c 0)) ∧ (stCells l)[i * 8 + 2]? = some (.int .i64 (s.c 1)) ∧ (stCells l)[i * 8 + 3]? = some (.int .i64 (s.c 2)) ∧ (stCells l)[i * 8 + 4]? = some (.int .i64 (s.c 3)) ∧ (stCells l)[i * 8 + 5]? = some (.int .i64 (s.c 4)) ∧ (stCells l)[i * 8 + 6]? = some (.int .i64 (s.c 5)) ∧ (stCells l)[i * 8 + 7]? = some (.bool s.f)
  | [], i, s, h => by simp at h
  | x :: l, 0, s, h => by simp at h; subst h; simp [stCells]
  | x :: l, i + 1, s, h => by
    have h1 := stCells_at l i s (by simpa using h)
    have e : ∀ j, (stCells (x :: l))[(i + 1) * 8 + j]? = (stCells l)[i * 8 + j]? := fun j => by
      show ([.int .i64 x.p, .int .i64 (x.c 0), .int .i64 (x.c 1), .int .i64 (x.c 2), .int .i64 (x.c 3), .int .i64 (x.c 4), .int .i64 (x.c 5), .bool x.f] ++ stCells l)[(i + 1) * 8 + j]? = _
      rw [List.getElem?_append_right (by simp; omega)]
      congr 1
      simp
      omega
    exact ⟨(e 0).trans h1.1, (e 1).trans h1.2.1, (e 2).trans h1.2.2.1, (e 3).trans h1.2.2.2.1, (e 4).trans h1.2.2.2.2.1, (e 5).trans h1.2.2.2.2.2.1, (e 6).trans h1.2.2.2.2.2.2.1, (e 7).trans h1.2.2.2.2.2.2.2⟩
theorem st_one (s : St) : ∀ u ∈ [Value.int .i64 s.p, .int .i64 (s.c 0), .int .i64 (s.c 1), .int .i64 (s.c 2), .int .i64 (s.c 3), .int .i64 (s.c 4), .int .i64 (s.c 5), .bool s.f], u.oneCell' = true := by
  intro u hu
  simp only [List.mem_cons, List.not_mem_nil, or_false] at hu
  rcases hu with rfl | rfl | rfl | rfl | rfl | rfl | rfl | rfl <;> rfl
theorem st_new {w : World} {k : Nat} (hk : k = w.heap.size) (s : St) (t : TypeId) : ∀ j u, [Value.int .i64 s.p, .int .i64 (s.c 0), .int .i64 (s.c 1), .int .i64 (s.c 2), .int .i64 (s.c 3), .int .i64 (s.c 4), .int .i64 (s.c 5), .bool s.f][j]? = some u → (w.alloc (.cells #[.int .i64 s.p, .int .i64 (s.c 0), .int .i64 (s.c 1), .int .i64 (s.c 2), .int .i64 (s.c 3), .int .i64 (s.c 4), .int .i64 (s.c 5), .bool s.f] t)).cell? ((⟨k, 0, none⟩ : Addr).add j) = some u := by
  intro j u hj
  subst hk
  rw [Addr.add_lit, Nat.zero_add]
  match j, hj with
  | 0, hj => simp at hj; subst hj; simp
  | 1, hj => simp at hj; subst hj; simp
  | 2, hj => simp at hj; subst hj; simp
  | 3, hj => simp at hj; subst hj; simp
  | 4, hj => simp at hj; subst hj; simp
  | 5, hj => simp at hj; subst hj; simp
  | 6, hj => simp at hj; subst hj; simp
  | 7, hj => simp at hj; subst hj; simp
  | j + 8, hj => simp at hj
theorem infoSt : (Tryz.prog.info? 39).map (fun i => (i.zero, i.size, i.bytes)) = some (some (.agg #[.int .i64 0, .int .i64 0, .int .i64 0, .int .i64 0, .int .i64 0, .int .i64 0, .int .i64 0, .bool false]), 8, 64) := by kernel_rfl
end Go.Proofs.YteoemcekkcnplaeGreatDoor
namespace Go.Proofs.YteoemcekkcnplaeGreatDoor
open Go.RowKit

/-- States in a row that can be read. -/
def StL (w : World) (v : Value) (l : List St) : Prop :=
  (l = [] ∧ ∃ ao cap, v = .slice ao 0 cap) ∨ ∃ b off cap, v = .slice (some ⟨b, off, none⟩) l.length cap ∧ l.length ≤ cap ∧ b < w.heap.size ∧ ∀ (i : Nat) s, l[i]? = some s → StC w b (off + i * 8) s
theorem StL.form {w : World} {v : Value} {l : List St} (h : StL w v l) : ∃ ao cap, v = .slice ao l.length cap := by
  rcases h with ⟨rfl, ao, cap, rfl⟩ | ⟨b, off, cap, rfl, _⟩
  · exact ⟨ao, cap, rfl⟩
  · exact ⟨_, cap, rfl⟩
theorem StL.all {w w' : World} {v : Value} {l : List St} (h : StL w v l) (hb : Below w.heap.size w w') : StL w' v l := by
  rcases h with h | ⟨b, off, cap, rfl, hcap, hlt, hc⟩
  · exact Or.inl h
  · exact Or.inr ⟨b, off, cap, rfl, hcap, Nat.lt_of_lt_of_le hlt hb.size, fun i s hi => (hc i s hi).block (hb.block b hlt)⟩
theorem StL.own {w : World} {base : Nat} {v : Value} {l : List St} (h : w.ownsRow base 39 8 v l.length (stCells l)) : StL w v l := by
  have hl := h.lt
  have hcs := @World.ownsRow.cells _ _ _ _ _ _ _ h
  rcases h.2 with ⟨rfl, h0⟩ | ⟨g, cap, cur, rfl, _, _, hcap, _⟩
  · exact Or.inl ⟨List.eq_nil_of_length_eq_zero h0, _, _, rfl⟩
  · have hat : ∀ j u, (stCells l)[j]? = some u → w.cell? ⟨g, j, none⟩ = some u := fun j u hu => by
      have := hcs rfl j u hu
      rwa [Addr.add_lit, Nat.zero_add] at this
    refine Or.inr ⟨g, 0, cap, rfl, hcap, (hl g rfl).2, fun i s hs => ?_⟩
    obtain ⟨q0, q1, q2, q3, q4, q5, q6, q7⟩ := stCells_at l i s hs
    rw [Nat.zero_add]
    exact ⟨hat _ _ q0, hat _ _ q1, hat _ _ q2, hat _ _ q3, hat _ _ q4, hat _ _ q5, hat _ _ q6, hat _ _ q7⟩
end Go.Proofs.YteoemcekkcnplaeGreatDoor
namespace Go.Proofs.YteoemcekkcnplaeGreatDoor
open Go.ChangeShapes Go.WideShapes Go.ChangeAt Go.WideElems Go.RowKit Go.Deep

theorem pk_spot {W : World} {a : Addr} {v : Value} (h : W.cell? a = some v) : a = ⟨a.block, a.off, none⟩ ∧ a.block < W.heap.size := by
  obtain ⟨b, o, s⟩ := a
  unfold World.cell? at h
  simp only at h
  cases hb : W.heap[b]? with
  | none => rw [hb] at h; cases h
  | some x =>
    rw [hb] at h
    refine ⟨?_, (Array.getElem?_eq_some_iff.1 hb).1⟩
    cases x <;> simp at h
    cases s with
    | none => rfl
    | some s => simp at h
theorem pk_lt {α : Type} [Inhabited α] {p : Nat → α → Prop} {n : Nat} (h : ∀ i, i < n → ∃ x, p i x) : ∃ f : Nat → α, ∀ i, i < n → p i (f i) := by
  refine ⟨fun i => if hi : i < n then (h i hi).choose else default, fun i hi => ?_⟩
  simp only [hi, dif_pos]
  exact (h i hi).choose_spec
/-- A slice read as data, at the level of its cell. -/
theorem pk_slice {α : Type} [Inhabited α] {H : Type} {enc : TypeId × Value → H} {P : Program} {W : World} {base : Nat} {sp : Nat → Bool} {held : Bool} {fuel : Nat} {cs : List Value} {x : DataW H × List MemPlace} {t e : TypeId} {k : Nat}
    (ht : P.underlying t = some (.slice e)) (hk : P.cellsOf e = k) (hk0 : 0 < k) (R : List Value → α → Prop)
    (hel : ∀ (n : Nat) (cs : List Value) (x : DataW H × List MemPlace), DataW.trod enc P W base sp held n e cs = some x → ∃ o, R cs o)
    (h : DataW.trod enc P W base sp held fuel t cs = some x) :
    ∃ a len cap, cs = [.slice a len cap] ∧ (len = 0 ∨ ∃ b off, a = some ⟨b, off, none⟩ ∧ len ≤ cap ∧ b < W.heap.size ∧ ∃ l : List α, l.length = len ∧ ∀ i o, l[i]? = some o → ∃ us, us.length = k ∧ R us o ∧ ∀ j, j < k → W.cell? ⟨b, off + i * k + j, none⟩ = us[j]?) := by
  rcases open_slice ht h with ⟨rfl, _⟩ | ⟨a, len, cap, m, n, D, Pl, rfl, _, hl, _, hm, _, he⟩
  · exact ⟨none, 0, 0, rfl, Or.inl rfl⟩
  · refine ⟨some a, len, cap, rfl, ?_⟩
    have hlm : len ≤ m := by rw [hm]; split <;> omega
    by_cases h0 : len = 0
    · exact Or.inl h0
    · rw [hk] at he
      obtain ⟨F, hF⟩ := pk_lt (α := α × List Value) (p := fun i o => o.2.length = k ∧ R o.2 o.1 ∧ ∀ j, j < k → W.cell? ((a.add (i * k)).add j) = o.2[j]?) (n := len) (fun i hi => by
        obtain ⟨us, h1, h2⟩ := he i (by omega)
        obtain ⟨o, ho⟩ := hel _ _ _ h2
        obtain ⟨_, h3, h4⟩ := World.cells?_some h1
        exact ⟨(o, us), h3, ho, h4⟩)
      obtain ⟨l0, _, c0⟩ := hF 0 (by omega)
      have hz := c0 0 hk0
      rw [show (a.add (0 * k)).add 0 = a from by simp [Addr.add], List.getElem?_eq_getElem (by omega)] at hz
      obtain ⟨ha, hlt⟩ := pk_spot hz
      refine Or.inr ⟨a.block, a.off, by rw [← ha], hl, hlt, (List.range len).map (fun i => (F i).1), by simp, fun i o ho => ?_⟩
      have hi : i < len := by
        have := (List.getElem?_eq_some_iff.1 ho).1
        simpa using this
      have hoi : (F i).1 = o := by simpa [hi] using ho
      obtain ⟨h1, h2, h3⟩ := hF i hi
      refine ⟨(F i).2, h1, hoi ▸ h2, fun j hj => ?_⟩
      have := h3 j hj
      rw [ha] at this
      simp only [Addr.add_lit] at this
      exact this
theorem pcInt : Tryz.prog.cellsOf 3 = 1 := by kernel_rfl
theorem pcOp : Tryz.prog.cellsOf 58 = 3 := by kernel_rfl
theorem pcSpan : Tryz.prog.cellsOf 47 = 3 := by kernel_rfl
theorem pcWire : Tryz.prog.cellsOf 49 = 4 := by kernel_rfl
theorem pcOps : Tryz.prog.cellsOf 51 = 1 := by kernel_rfl
section
variable {H : Type} {enc : TypeId × Value → H} {W : World} {base : Nat} {sp : Nat → Bool} {held : Bool}
set_option maxRecDepth 100000 in
theorem pk_op (n : Nat) (cs : List Value) (x : DataW H × List MemPlace) (h : DataW.trod enc Tryz.prog W base sp held n 58 cs = some x) : ∃ o : O3, cs = [.int .i64 o.1, .int .i64 o.2.1, .int .i64 o.2.2] := by
  obtain ⟨y0, y1, y2, n, _, hl, h0, h1, h2⟩ := trod_struct3 Tryz.underlying58 h
  rw [pcOp] at hl
  match cs, hl with
  | [c0, c1, c2], _ =>
    simp only [pcInt] at h0 h1 h2
    simp at h0 h1 h2
    obtain ⟨n, e0, _, _⟩ := DataW.trod_int Tryz.underlying3 h0
    obtain ⟨a, e1, _, _⟩ := DataW.trod_int Tryz.underlying3 h1
    obtain ⟨b, e2, _, _⟩ := DataW.trod_int Tryz.underlying3 h2
    simp only [List.cons.injEq, and_true] at e0 e1 e2
    subst e0; subst e1; subst e2
    exact ⟨(n, a, b), rfl⟩
set_option maxRecDepth 100000 in
theorem pk_span (n : Nat) (cs : List Value) (x : DataW H × List MemPlace) (h : DataW.trod enc Tryz.prog W base sp held n 47 cs = some x) : ∃ o : S3, cs = [.int .i64 o.1, .int .i64 o.2.1, .int .i64 o.2.2] := by
  obtain ⟨y0, y1, y2, n, _, hl, h0, h1, h2⟩ := trod_struct3 Tryz.underlying47 h
  rw [pcSpan] at hl
  match cs, hl with
  | [c0, c1, c2], _ =>
    simp only [pcInt] at h0 h1 h2
    simp at h0 h1 h2
    obtain ⟨n, e0, _, _⟩ := DataW.trod_int Tryz.underlying3 h0
    obtain ⟨a, e1, _, _⟩ := DataW.trod_int Tryz.underlying3 h1
    obtain ⟨b, e2, _, _⟩ := DataW.trod_int Tryz.underlying3 h2
    simp only [List.cons.injEq, and_true] at e0 e1 e2
    subst e0; subst e1; subst e2
    exact ⟨(n, a, b), rfl⟩
set_option maxRecDepth 100000 in
theorem pk_wire (n : Nat) (cs : List Value) (x : DataW H × List MemPlace) (h : DataW.trod enc Tryz.prog W base sp held n 49 cs = some x) : ∃ o : W4, cs = [.int .i64 o.1, .int .i64 o.2.1, .int .i64 o.2.2.1, .int .i64 o.2.2.2] := by
  obtain ⟨y0, y1, y2, y3, n, _, hl, h0, h1, h2, h3⟩ := Joins.trod_struct4 Tryz.underlying49 h
  rw [pcWire] at hl
  match cs, hl with
  | [c0, c1, c2, c3], _ =>
    simp only [pcInt] at h0 h1 h2 h3
    simp at h0 h1 h2 h3
    obtain ⟨n, e0, _, _⟩ := DataW.trod_int Tryz.underlying3 h0
    obtain ⟨a, e1, _, _⟩ := DataW.trod_int Tryz.underlying3 h1
    obtain ⟨b, e2, _, _⟩ := DataW.trod_int Tryz.underlying3 h2
    obtain ⟨c, e3, _, _⟩ := DataW.trod_int Tryz.underlying3 h3
    simp only [List.cons.injEq, and_true] at e0 e1 e2 e3
    subst e0; subst e1; subst e2; subst e3
    exact ⟨(n, a, b, c), rfl⟩
theorem pk_ops (n : Nat) (cs : List Value) (x : DataW H × List MemPlace) (h : DataW.trod enc Tryz.prog W base sp held n 51 cs = some x) : ∃ l : List O3, ∃ u, cs = [u] ∧ Ops W u l := by
  obtain ⟨a, len, cap, rfl, hr⟩ := pk_slice (α := O3) Tryz.underlying51 pcOp (by decide) (fun cs o => cs = [.int .i64 o.1, .int .i64 o.2.1, .int .i64 o.2.2]) pk_op h
  rcases hr with rfl | ⟨b, off, rfl, _, hlt, l, rfl, hl⟩
  · exact ⟨[], _, rfl, Or.inl ⟨rfl, _, _, rfl⟩⟩
  · refine ⟨l, _, rfl, Or.inr ⟨b, off, cap, rfl, hlt, fun i o ho => ?_⟩⟩
    obtain ⟨us, _, rfl, hc⟩ := hl i o ho
    exact ⟨hc 0 (by omega), hc 1 (by omega), hc 2 (by omega)⟩
theorem pk_sps (n : Nat) (cs : List Value) (x : DataW H × List MemPlace) (h : DataW.trod enc Tryz.prog W base sp held n 23 cs = some x) : ∃ l : List S3, ∃ u, cs = [u] ∧ Sps W u l := by
  obtain ⟨a, len, cap, rfl, hr⟩ := pk_slice (α := S3) Tryz.underlying23 pcSpan (by decide) (fun cs o => cs = [.int .i64 o.1, .int .i64 o.2.1, .int .i64 o.2.2]) pk_span h
  rcases hr with rfl | ⟨b, off, rfl, hcap, hlt, l, rfl, hl⟩
  · exact ⟨[], _, rfl, Or.inl ⟨rfl, _, _, rfl⟩⟩
  · refine ⟨l, _, rfl, Or.inr ⟨b, off, cap, rfl, hcap, hlt, fun i o ho => ?_⟩⟩
    obtain ⟨us, _, rfl, hc⟩ := hl i o ho
    exact ⟨hc 0 (by omega), hc 1 (by omega), hc 2 (by omega)⟩
theorem pk_wrs (n : Nat) (cs : List Value) (x : DataW H × List MemPlace) (h : DataW.trod enc Tryz.prog W base sp held n 24 cs = some x) : ∃ l : List W4, ∃ u, cs = [u] ∧ Wrs W u l := by
  obtain ⟨a, len, cap, rfl, hr⟩ := pk_slice (α := W4) Tryz.underlying24 pcWire (by decide) (fun cs o => cs = [.int .i64 o.1, .int .i64 o.2.1, .int .i64 o.2.2.1, .int .i64 o.2.2.2]) pk_wire h
  rcases hr with rfl | ⟨b, off, rfl, hcap, hlt, l, rfl, hl⟩
  · exact ⟨[], _, rfl, Or.inl ⟨rfl, _, _, rfl⟩⟩
  · refine ⟨l, _, rfl, Or.inr ⟨b, off, cap, rfl, hcap, hlt, fun i o ho => ?_⟩⟩
    obtain ⟨us, _, rfl, hc⟩ := hl i o ho
    exact ⟨hc 0 (by omega), hc 1 (by omega), hc 2 (by omega), hc 3 (by omega)⟩
theorem pk_cds (n : Nat) (cs : List Value) (x : DataW H × List MemPlace) (h : DataW.trod enc Tryz.prog W base sp held n 22 cs = some x) : ∃ l : List (List O3), ∃ u, cs = [u] ∧ Cds W u l := by
  obtain ⟨a, len, cap, rfl, hr⟩ := pk_slice (α := List O3) Tryz.underlying22 pcOps (by decide) (fun cs l => ∃ u, cs = [u] ∧ Ops W u l) pk_ops h
  rcases hr with rfl | ⟨b, off, rfl, hcap, hlt, l, rfl, hl⟩
  · exact ⟨[], _, rfl, Or.inl ⟨rfl, _, _, rfl⟩⟩
  · refine ⟨l, _, rfl, Or.inr ⟨b, off, cap, rfl, hcap, hlt, fun i c hc => ?_⟩⟩
    obtain ⟨us, _, ⟨u, rfl, hu⟩, hc⟩ := hl i c hc
    have := hc 0 (by omega)
    exact ⟨u, by simpa using this, hu⟩
set_option maxRecDepth 100000 in
/-- A plan that came in. -/
theorem open_plan {b0 : Nat} {r : Reach} {v : Value} {d : DataW H} {p : List MemPlace} (hv : Value.okWide Tryz.prog W r b0 26 v)
    (h : DataW.Trod enc Tryz.prog W base sp held 26 v d p) : ∃ (vc vs vw : Value) (p : PD), v = plV vc p.ticks vs vw ∧ Pln W vc vs vw p := by
  obtain ⟨v0, v1, v2, v3, y0, y1, y2, y3, m, rfl, _, _, h0, h1, h2, h3⟩ := Joins.open_agg4 Tryz.underlying26 (by kernel_rfl) (by kernel_rfl) hv h
  obtain ⟨cs, u0, e0, g0⟩ := pk_cds _ _ _ h0
  obtain ⟨n, e1, _, _⟩ := DataW.trod_int Tryz.underlying3 h1
  obtain ⟨ss, u2, e2, g2⟩ := pk_sps _ _ _ h2
  obtain ⟨ws, u3, e3, g3⟩ := pk_wrs _ _ _ h3
  simp only [List.cons.injEq, and_true] at e0 e1 e2 e3
  subst e0; subst e1; subst e2; subst e3
  exact ⟨_, _, _, ⟨cs, n, ss, ws⟩, rfl, g0, g2, g3⟩
end
end Go.Proofs.YteoemcekkcnplaeGreatDoor
namespace Go.Proofs.YteoemcekkcnplaeGreatDoor
open Go.RowKit

/-- A state's eight cells, written. -/
def setSt (w : World) (b o : Nat) (s : St) : World := (((((((w.setCell ⟨b, o, none⟩ (.int .i64 s.p)).setCell ⟨b, o + 1, none⟩ (.int .i64 (s.c 0))).setCell ⟨b, o + 2, none⟩ (.int .i64 (s.c 1))).setCell ⟨b, o + 3, none⟩ (.int .i64 (s.c 2))).setCell ⟨b, o + 4, none⟩ (.int .i64 (s.c 3))).setCell ⟨b, o + 5, none⟩ (.int .i64 (s.c 4))).setCell ⟨b, o + 6, none⟩ (.int .i64 (s.c 5))).setCell ⟨b, o + 7, none⟩ (.bool s.f)
theorem setSt_touch {M : List Nat} (w : World) {b : Nat} (hb : b ∈ M) (o : Nat) (s : St) : KTouch M w (setSt w b o s) :=
  (((((((KTouch.set w hb _ _).trans (KTouch.set _ hb _ _)).trans (KTouch.set _ hb _ _)).trans (KTouch.set _ hb _ _)).trans (KTouch.set _ hb _ _)).trans (KTouch.set _ hb _ _)).trans (KTouch.set _ hb _ _)).trans (KTouch.set _ hb _ _)
theorem setSt_frozen (w : World) (b o : Nat) (s : St) (a : Addr) : (setSt w b o s).frozen? a = w.frozen? a := by
  unfold setSt
  simp only [World.frozen?_setCell]
theorem setCell_far {w : World} {b i j : Nat} {v : Value} (h : i ≠ j) : (w.setCell ⟨b, j, none⟩ v).cell? ⟨b, i, none⟩ = w.cell? ⟨b, i, none⟩ :=
  World.cell?_setCell_other _ _ _ _ (fun e => by injection e with e1 e2; exact h e2.symm)
theorem setSt_off {w : World} {b o : Nat} {s : St} {i : Nat} (h : i < o ∨ o + 8 ≤ i) : (setSt w b o s).cell? ⟨b, i, none⟩ = w.cell? ⟨b, i, none⟩ := by
  unfold setSt
  rw [setCell_far (by omega), setCell_far (by omega), setCell_far (by omega), setCell_far (by omega), setCell_far (by omega), setCell_far (by omega), setCell_far (by omega), setCell_far (by omega)]
theorem setSt_at {w : World} {b o : Nat} {s s' : St} (h : StC w b o s) : StC (setSt w b o s') b o s' := by
  obtain ⟨h0, h1, h2, h3, h4, h5, h6, h7⟩ := h
  unfold setSt
  refine ⟨?_, ?_, ?_, ?_, ?_, ?_, ?_, ?_⟩ <;> simp [go_sem, h0, h1, h2, h3, h4, h5, h6, h7]
theorem StC.off {w w' : World} {b o : Nat} {s : St} (h : StC w b o s) (hc : ∀ i, o ≤ i → i < o + 8 → w'.cell? ⟨b, i, none⟩ = w.cell? ⟨b, i, none⟩) : StC w' b o s :=
  ⟨(hc _ (by omega) (by omega)).trans h.p, (hc _ (by omega) (by omega)).trans h.c0, (hc _ (by omega) (by omega)).trans h.c1, (hc _ (by omega) (by omega)).trans h.c2, (hc _ (by omega) (by omega)).trans h.c3, (hc _ (by omega) (by omega)).trans h.c4, (hc _ (by omega) (by omega)).trans h.c5, (hc _ (by omega) (by omega)).trans h.f⟩
theorem StC.poke {w : World} {b o : Nat} {s : St} (h : StC w b o s) {c : Nat} (hc : c ≤ 5) (n : Int) : StC (w.setCell ⟨b, o + 1 + c, none⟩ (.int .i64 n)) b o (pokeS s c n) := by
  obtain ⟨h0, h1, h2, h3, h4, h5, h6, h7⟩ := h
  match c, hc with
  | 0, _ => refine ⟨?_, ?_, ?_, ?_, ?_, ?_, ?_, ?_⟩ <;> simp [go_sem, pokeS, h0, h1, h2, h3, h4, h5, h6, h7]
  | 1, _ => refine ⟨?_, ?_, ?_, ?_, ?_, ?_, ?_, ?_⟩ <;> simp [go_sem, pokeS, h0, h1, h2, h3, h4, h5, h6, h7]
  | 2, _ => refine ⟨?_, ?_, ?_, ?_, ?_, ?_, ?_, ?_⟩ <;> simp [go_sem, pokeS, h0, h1, h2, h3, h4, h5, h6, h7]
  | 3, _ => refine ⟨?_, ?_, ?_, ?_, ?_, ?_, ?_, ?_⟩ <;> simp [go_sem, pokeS, h0, h1, h2, h3, h4, h5, h6, h7]
  | 4, _ => refine ⟨?_, ?_, ?_, ?_, ?_, ?_, ?_, ?_⟩ <;> simp [go_sem, pokeS, h0, h1, h2, h3, h4, h5, h6, h7]
  | 5, _ => refine ⟨?_, ?_, ?_, ?_, ?_, ?_, ?_, ?_⟩ <;> simp [go_sem, pokeS, h0, h1, h2, h3, h4, h5, h6, h7]
/-- An event in its box. -/
def EvB (W : World) (b : Nat) (t r a q : Int) : Prop := W.heap[b]? = some (.cells #[.int .i64 t, .int .i64 r, .int .i64 a, .int .i64 q] 75 (0, 0))
theorem EvB.lt {W : World} {b : Nat} {t r a q : Int} (h : EvB W b t r a q) : b < W.heap.size := (Array.getElem?_eq_some_iff.1 h).1
theorem EvB.cs {W : World} {b : Nat} {t r a q : Int} (h : EvB W b t r a q) : W.cell? ⟨b, 0, none⟩ = some (.int .i64 t) ∧ W.cell? ⟨b, 1, none⟩ = some (.int .i64 r) ∧ W.cell? ⟨b, 2, none⟩ = some (.int .i64 a) ∧ W.cell? ⟨b, 3, none⟩ = some (.int .i64 q) := by
  have e : W.heap[b]? = _ := h
  simp [World.cell?, e]
theorem EvB.fs {W : World} {b : Nat} {t r a q : Int} (h : EvB W b t r a q) : W.frozen? ⟨b, 0, none⟩ = false ∧ W.frozen? ⟨b, 1, none⟩ = false ∧ W.frozen? ⟨b, 2, none⟩ = false ∧ W.frozen? ⟨b, 3, none⟩ = false := by
  have e : W.heap[b]? = _ := h
  simp [World.frozen?, e]
theorem EvB.set {W : World} {b : Nat} {t r a q : Int} (h : EvB W b t r a q) (t' r' a' q' : Int) : EvB ((((W.setCell ⟨b, 0, none⟩ (.int .i64 t')).setCell ⟨b, 1, none⟩ (.int .i64 r')).setCell ⟨b, 2, none⟩ (.int .i64 a')).setCell ⟨b, 3, none⟩ (.int .i64 q')) b t' r' a' q' := by
  have e : W.heap[b]? = _ := h
  unfold EvB
  simp [World.setCell, Array.getElem?_modify, e]
theorem EvB.at {W : World} {b : Nat} {t r a q : Int} (h : EvB W b t r a q) (a' : Int) : EvB (W.setCell ⟨b, 2, none⟩ (.int .i64 a')) b t r a' q := by
  have e : W.heap[b]? = _ := h
  unfold EvB
  simp [World.setCell, Array.getElem?_modify, e]
theorem EvB.what {W : World} {b : Nat} {t r a q : Int} (h : EvB W b t r a q) (q' : Int) : EvB (W.setCell ⟨b, 3, none⟩ (.int .i64 q')) b t r a q' := by
  have e : W.heap[b]? = _ := h
  unfold EvB
  simp [World.setCell, Array.getElem?_modify, e]
/-- A state in its box. -/
def StB (W : World) (b : Nat) (s : St) : Prop := W.heap[b]? = some (.cells #[.int .i64 s.p, .int .i64 (s.c 0), .int .i64 (s.c 1), .int .i64 (s.c 2), .int .i64 (s.c 3), .int .i64 (s.c 4), .int .i64 (s.c 5), .bool s.f] 39 (0, 0))
theorem StB.cs {W : World} {b : Nat} {s : St} (h : StB W b s) : StC W b 0 s := by
  have e : W.heap[b]? = _ := h
  refine ⟨?_, ?_, ?_, ?_, ?_, ?_, ?_, ?_⟩ <;> simp [World.cell?, e]
/-- Both boxes of a tick, the result's and its own. -/
structure Ev (w W : World) (e2 : Nat) (t r a q : Int) : Prop where
  res : EvB W w.heap.size 0 0 0 0
  own : EvB W e2 t r a q
  ne : e2 ≠ w.heap.size
  ge : w.heap.size ≤ e2
/-- The box laid ahead of the call. -/
theorem ev_box {w w1 : World} (b1 : Below (((w.alloc (.cells #[.int .i64 0, .int .i64 0, .int .i64 0, .int .i64 0] 75)).alloc (.cells #[.int .i64 0, .int .i64 0, .int .i64 0, .int .i64 0] 75)).drew).heap.size (((w.alloc (.cells #[.int .i64 0, .int .i64 0, .int .i64 0, .int .i64 0] 75)).alloc (.cells #[.int .i64 0, .int .i64 0, .int .i64 0, .int .i64 0] 75)).drew) w1) :
    (w1.cell? ⟨w.heap.size + 1, 0, none⟩ = some (.int .i64 0) ∧ w1.cell? ⟨w.heap.size + 1, 1, none⟩ = some (.int .i64 0) ∧ w1.cell? ⟨w.heap.size + 1, 2, none⟩ = some (.int .i64 0) ∧ w1.cell? ⟨w.heap.size + 1, 3, none⟩ = some (.int .i64 0)) ∧ w1.frozen? ⟨w.heap.size + 1, 0, none⟩ = false ∧ w1.frozen? ⟨w.heap.size + 1, 1, none⟩ = false ∧ w1.frozen? ⟨w.heap.size + 1, 2, none⟩ = false ∧ w1.frozen? ⟨w.heap.size + 1, 3, none⟩ = false := by
  have hc := fun o => b1.cell (p := ⟨w.heap.size + 1, o, none⟩) (by simp)
  have hf := fun o => b1.frozen (p := ⟨w.heap.size + 1, o, none⟩) (by simp)
  exact ⟨⟨(hc 0).trans (by simp), (hc 1).trans (by simp), (hc 2).trans (by simp), (hc 3).trans (by simp)⟩, (hf 0).trans (by simp), (hf 1).trans (by simp), (hf 2).trans (by simp), (hf 3).trans (by simp)⟩
/-- The cells of a state are there, and may be written. -/
theorem there_st {W : World} {b o : Nat} {s : St} (h : StC W b o s) (hf : ∀ i, W.frozen? ⟨b, i, none⟩ = false) (nq : Nat) : (W.drewN nq).there b o 8 := by
  obtain ⟨s0, s1, s2, s3, s4, s5, s6, s7⟩ := h
  intro j hj
  have hb : Below W.heap.size W (W.drewN nq) := below_dN (Below.refl _ _) nq
  have hlt : b < W.heap.size := World.block_lt_of_cell? W _ s0
  rw [hb.cell (p := ⟨b, o + j, none⟩) hlt, hb.frozen (p := ⟨b, o + j, none⟩) hlt]
  refine ⟨?_, hf _⟩
  match j, hj with
  | 0, _ => rw [Nat.add_zero, s0]; rfl
  | 1, _ => rw [s1]; rfl
  | 2, _ => rw [s2]; rfl
  | 3, _ => rw [s3]; rfl
  | 4, _ => rw [s4]; rfl
  | 5, _ => rw [s5]; rfl
  | 6, _ => rw [s6]; rfl
  | 7, _ => rw [s7]; rfl
end Go.Proofs.YteoemcekkcnplaeGreatDoor
namespace Go.Proofs.YteoemcekkcnplaeGreatDoor
open Go.RowKit

/-- What lies in threes can be read cell by cell. -/
theorem trio_at {w : World} {b : Nat} : ∀ (l : List (Int × Int × Int)) (off : Nat), (∀ (i : Nat) o, l[i]? = some o → w.cell? ⟨b, off + i * 3, none⟩ = some (.int .i64 o.1) ∧ w.cell? ⟨b, off + i * 3 + 1, none⟩ = some (.int .i64 o.2.1) ∧ w.cell? ⟨b, off + i * 3 + 2, none⟩ = some (.int .i64 o.2.2)) → ∀ j u, (spCells l)[j]? = some u → w.cell? ((⟨b, off, none⟩ : Addr).add j) = some u
  | [], off, _, j, u, hj => by simp [spCells] at hj
  | x :: l, off, h, j, u, hj => by
    have e : spCells (x :: l) = [.int .i64 x.1, .int .i64 x.2.1, .int .i64 x.2.2] ++ spCells l := by simp [spCells]
    rw [e] at hj
    obtain ⟨h0, h1, h2⟩ := h 0 x (by simp)
    rw [Addr.add_lit]
    match j, hj with
    | 0, hj => simp at hj; subst hj; simpa using h0
    | 1, hj => simp at hj; subst hj; simpa using h1
    | 2, hj => simp at hj; subst hj; simpa using h2
    | j + 3, hj =>
      rw [List.getElem?_append_right (by simp)] at hj
      have ih := trio_at l (off + 3) (fun i o ho => by
        have := h (i + 1) o (by simpa using ho)
        rw [show off + (i + 1) * 3 = off + 3 + i * 3 by omega] at this
        exact this) j u (by simpa using hj)
      rw [Addr.add_lit] at ih
      rw [show off + (j + 3) = off + 3 + j by omega]
      exact ih
theorem spCells_len : ∀ l : List (Int × Int × Int), (spCells l).length = l.length * 3
  | [] => rfl
  | x :: l => by
    have e : spCells (x :: l) = [.int .i64 x.1, .int .i64 x.2.1, .int .i64 x.2.2] ++ spCells l := by simp [spCells]
    rw [e, List.length_append, spCells_len l, List.length_cons]
    simp
    omega
theorem spCells_one (l : List (Int × Int × Int)) : ∀ u ∈ spCells l, u.oneCell' = true := by
  intro u hu
  simp only [spCells, List.mem_flatMap] at hu
  obtain ⟨o, _, hu⟩ := hu
  simp at hu
  rcases hu with rfl | rfl | rfl <;> rfl
theorem ginfoOp : (Tryz.prog.info? 58).map (fun i => (i.zero, i.size, i.bytes)) = some (some (.agg #[.int .i64 0, .int .i64 0, .int .i64 0]), 3, 24) := by kernel_rfl
set_option maxRecDepth 100000 in
set_option maxHeartbeats 4000000 in
theorem clone_op_nil (cap : Nat) (w : World) : Calls Tryz.prog 21 #[.slice none 0 cap] w fun e w' => e = .returned (.slice none 0 0) ∧ w' = w := by
  have q : ∀ (w : World) (a : Option Addr) (n c n' c' : Nat), (binOp .eql 51 (.slice a n c) (.slice none n' c')).run Tryz.prog w = .ok (.bool a.isNone) w := fun w a n c n' c' => Lib.run_eql_slice_nil w _ _ a n c n' c' Tryz.underlying51
  go_enter Tryz.func21, Tryz.ntmps21
  go_wp2
  go_ret
  exact ⟨rfl, rfl⟩
set_option maxRecDepth 100000 in
set_option maxHeartbeats 4000000 in
theorem clone_op_some (ad : Addr) (cap : Nat) (l : List (Int × Int × Int)) (w : World) (hx : l.length ≤ 1000) (hc : ∀ j u, (spCells l)[j]? = some u → w.cell? (ad.add j) = some u) :
    Calls Tryz.prog 21 #[.slice (some ad) l.length cap] w fun e w' => ∃ v', e = .returned v' ∧ w'.ownsRow w.heap.size 58 3 v' l.length (spCells l) ∧ Below w.heap.size w w' := by
  obtain ⟨ii, hi, hz0, hz1, hz2⟩ := info_parts ginfoOp
  have q : ∀ (w : World) (a : Option Addr) (n c n' c' : Nat), (binOp .eql 51 (.slice a n c) (.slice none n' c')).run Tryz.prog w = .ok (.bool a.isNone) w := fun w a n c n' c' => Lib.run_eql_slice_nil w _ _ a n c n' c' Tryz.underlying51
  have HC : Hid (∀ j u, (spCells l)[j]? = some u → w.cell? (ad.add j) = some u) := hc
  clear hc
  go_enter Tryz.func21, Tryz.ntmps21
  go_wp2_with (at_builtin; refine wpList_append_at _ rfl _ _ 51 rfl w.heap.size 58 ii _ 3 24 Tryz.underlying51 hi hz0 hz1 hz2 rfl (by decide) _ _ _ rfl (World.ownsRow_made w #[] 0 (Nat.le_refl _) (Nat.zero_le _) rfl) ad l.length cap (spCells l) rfl ?c0A ?c1A ?c2A ?c3A ?c4A ?c5A ?_)
  case c0A => exact spCells_len l
  case c1A =>
    intro j u hj
    have h := HC.out j u hj
    exact (((Below.refl _ w).alloc (Nat.le_refl _) _).cell (p := ad.add j) (World.block_lt_of_cell? w _ h)).trans h
  case c2A => exact spCells_one l
  case c3A => unfold maxLen; omega
  case c4A => omega
  case c5A => simp
  intro v1 w2 own1 hg1 hat1
  clear q
  go_wp2
  go_ret
  refine ⟨v1, rfl, by simpa using own1, ((Below.refl _ w).alloc (Nat.le_refl _) _).grown hg1 (by simp) (by intro k hk; simp [Value.ownBlock] at hk; omega)⟩
theorem clone_ops (l : List O3) (v : Value) (w : World) (h : Ops w v l) (hx : l.length ≤ 1000) :
    Calls Tryz.prog 21 #[v] w fun e w' => ∃ v', e = .returned v' ∧ w'.ownsRow w.heap.size 58 3 v' l.length (spCells l) ∧ Below w.heap.size w w' := by
  rcases h with ⟨rfl, ao, cap, rfl⟩ | ⟨b, off, cap, rfl, hlt, hc⟩
  · cases ao with
    | none =>
      refine (clone_op_nil cap w).mono ?_
      rintro e w' ⟨rfl, rfl⟩
      exact ⟨_, rfl, World.ownsRow_nil _ _ _ _, Below.refl _ _⟩
    | some ad => exact clone_op_some ad cap [] w (Nat.zero_le _) (fun j u hj => by simp [spCells] at hj)
  · exact clone_op_some ⟨b, off, none⟩ cap l w hx (trio_at l off hc)
/-- Ops in a row of their own can be read. -/
theorem gops_own {w : World} {base : Nat} {v : Value} {l : List O3} (h : w.ownsRow base 58 3 v l.length (spCells l)) : Ops w v l := by
  have hl := h.lt
  have hcs := @World.ownsRow.cells _ _ _ _ _ _ _ h
  rcases h.2 with ⟨rfl, h0⟩ | ⟨g, cap, cur, rfl, _, _, hcap, _⟩
  · exact Or.inl ⟨List.eq_nil_of_length_eq_zero h0, _, _, rfl⟩
  · have hat : ∀ j u, (spCells l)[j]? = some u → w.cell? ⟨g, j, none⟩ = some u := fun j u hu => by
      have := hcs rfl j u hu
      rwa [Addr.add_lit, Nat.zero_add] at this
    refine Or.inr ⟨g, 0, cap, rfl, (hl g rfl).2, fun i o ho => ?_⟩
    obtain ⟨h1, h2, h3⟩ := spCells_at l i o ho
    exact ⟨by simpa using hat _ _ h1, by simpa using hat _ _ h2, by simpa using hat _ _ h3⟩
end Go.Proofs.YteoemcekkcnplaeGreatDoor
namespace Go.Proofs.YteoemcekkcnplaeGreatDoor
open Go.RowKit

set_option maxRecDepth 100000 in
set_option maxHeartbeats 4000000 in
theorem clone_sp_nil (cap : Nat) (w : World) : Calls Tryz.prog 18 #[.slice none 0 cap] w fun e w' => e = .returned (.slice none 0 0) ∧ w' = w := by
  have q : ∀ (w : World) (a : Option Addr) (n c n' c' : Nat), (binOp .eql 23 (.slice a n c) (.slice none n' c')).run Tryz.prog w = .ok (.bool a.isNone) w := fun w a n c n' c' => Lib.run_eql_slice_nil w _ _ a n c n' c' Tryz.underlying23
  go_enter Tryz.func18, Tryz.ntmps18
  go_wp2
  go_ret
  exact ⟨rfl, rfl⟩
set_option maxRecDepth 100000 in
set_option maxHeartbeats 4000000 in
theorem clone_sp_some (ad : Addr) (cap : Nat) (l : List (Int × Int × Int)) (w : World) (hx : l.length ≤ 1000) (hc : ∀ j u, (spCells l)[j]? = some u → w.cell? (ad.add j) = some u) :
    Calls Tryz.prog 18 #[.slice (some ad) l.length cap] w fun e w' => ∃ v', e = .returned v' ∧ w'.ownsRow w.heap.size 47 3 v' l.length (spCells l) ∧ Below w.heap.size w w' := by
  obtain ⟨ii, hi, hz0, hz1, hz2⟩ := info_parts infoSp
  have q : ∀ (w : World) (a : Option Addr) (n c n' c' : Nat), (binOp .eql 23 (.slice a n c) (.slice none n' c')).run Tryz.prog w = .ok (.bool a.isNone) w := fun w a n c n' c' => Lib.run_eql_slice_nil w _ _ a n c n' c' Tryz.underlying23
  have HC : Hid (∀ j u, (spCells l)[j]? = some u → w.cell? (ad.add j) = some u) := hc
  clear hc
  go_enter Tryz.func18, Tryz.ntmps18
  go_wp2_with (at_builtin; refine wpList_append_at _ rfl _ _ 23 rfl w.heap.size 47 ii _ 3 24 Tryz.underlying23 hi hz0 hz1 hz2 rfl (by decide) _ _ _ rfl (World.ownsRow_made w #[] 0 (Nat.le_refl _) (Nat.zero_le _) rfl) ad l.length cap (spCells l) rfl ?c0A ?c1A ?c2A ?c3A ?c4A ?c5A ?_)
  case c0A => exact spCells_len l
  case c1A =>
    intro j u hj
    have h := HC.out j u hj
    exact (((Below.refl _ w).alloc (Nat.le_refl _) _).cell (p := ad.add j) (World.block_lt_of_cell? w _ h)).trans h
  case c2A => exact spCells_one l
  case c3A => unfold maxLen; omega
  case c4A => omega
  case c5A => simp
  intro v1 w2 own1 hg1 hat1
  clear q
  go_wp2
  go_ret
  refine ⟨v1, rfl, by simpa using own1, ((Below.refl _ w).alloc (Nat.le_refl _) _).grown hg1 (by simp) (by intro k hk; simp [Value.ownBlock] at hk; omega)⟩
theorem clone_sps (l : List S3) (v : Value) (w : World) (h : Sps w v l) (hx : l.length ≤ 1000) :
    Calls Tryz.prog 18 #[v] w fun e w' => ∃ v', e = .returned v' ∧ w'.ownsRow w.heap.size 47 3 v' l.length (spCells l) ∧ Below w.heap.size w w' := by
  rcases h with ⟨rfl, ao, cap, rfl⟩ | ⟨b, off, cap, rfl, hcap, hlt, hc⟩
  · cases ao with
    | none =>
      refine (clone_sp_nil cap w).mono ?_
      rintro e w' ⟨rfl, rfl⟩
      exact ⟨_, rfl, World.ownsRow_nil _ _ _ _, Below.refl _ _⟩
    | some ad => exact clone_sp_some ad cap [] w (Nat.zero_le _) (fun j u hj => by simp [spCells] at hj)
  · exact clone_sp_some ⟨b, off, none⟩ cap l w hx (trio_at l off hc)
end Go.Proofs.YteoemcekkcnplaeGreatDoor
namespace Go.Proofs.YteoemcekkcnplaeGreatDoor

/-- A wire that leads to a room, or comes from it. -/
def atR (r : Int) (l : LnD) : Bool := decide (l.w.1 = r) || decide (l.w.2.1 = r)
/-- What a room sees of a kernel's lines. -/
def seesK (k : KD) (r : Int) : List (List Int × Int) := (k.lines.filter (atR r)).map fun l => (l.xs, l.ls)
/-- A room's states ahead of each of n ticks, and behind the last one. -/
def statesK (p : PD) (n r : Nat) : List St := (List.range (n + 1)).map fun t => (kT p t).rooms.getD r stNew
theorem statesK_len (p : PD) (n r : Nat) : (statesK p n r).length = n + 1 := by simp [statesK]
theorem statesK_zero (p : PD) (r : Nat) : statesK p 0 r = [(newK p).rooms.getD r stNew] := by simp [statesK, kT]
theorem statesK_succ (p : PD) (n r : Nat) : statesK p (n + 1) r = statesK p n r ++ [(kT p (n + 1)).rooms.getD r stNew] := by
  unfold statesK
  rw [List.range_succ, List.map_append]
  rfl
theorem statesK_first (p : PD) (n r : Nat) : (statesK p n r)[0]? = some stNew := by
  have h : (newK p).rooms.getD r stNew = stNew := by
    unfold newK
    simp only [List.getD, List.getElem?_map]
    cases p.code[r]? <;> rfl
  rw [← h]
  simp [statesK, kT]
/-- What is wrong with a run. -/
def runE (p : PD) (n r : Int) : Int := if plchk p = 0 then (if r < 0 ∨ (p.code.length : Int) ≤ r ∨ n < 0 ∨ 2000 < n then 1 else 0) else plchk p
/-- Two states that look the same. -/
structure StSame (s t : St) : Prop where
  p : s.p = t.p
  c : ∀ i, i < 6 → s.c i = t.c i
  f : s.f = t.f
theorem StSame.refl (s : St) : StSame s s := ⟨rfl, fun _ _ => rfl, rfl⟩
theorem cells_same {o : O3} {c d : Nat → Int} {g : Int} {b : Bool} (h : ∀ i, i < 6 → c i = d i) (hA : o.2.1.toNat < 6) (hB : o.1 = 2 ∨ o.1 = 3 ∨ o.1 = 4 ∨ o.1 = 5 → o.2.2.toNat < 6) : ∀ i, i < 6 → cellsF o c g b i = cellsF o d g b i := fun i hi => by
  have hu : ∀ v, upd c o.2.1.toNat v i = upd d o.2.1.toNat v i := fun v => by
    unfold upd
    split
    · rfl
    · exact h i hi
  unfold cellsF
  split
  · exact hu _
  split
  · rename_i h2; rw [h _ (hB (by omega))]; exact hu _
  split
  · rename_i h3; rw [h _ hA, h _ (hB (by omega))]; exact hu _
  split
  · rename_i h4; rw [h _ hA, h _ (hB (by omega))]; exact hu _
  split
  · rename_i h5; rw [h _ hA, h _ (hB (by omega))]; exact hu _
  split
  · split
    · exact hu _
    · exact h i hi
  · exact h i hi
theorem step_same {o : O3} {s t : St} {n : Nat} {g : Int} {b : Bool} (h : StSame s t) (hA : o.2.1.toNat < 6) (hB : o.1 = 2 ∨ o.1 = 3 ∨ o.1 = 4 ∨ o.1 = 5 → o.2.2.toNat < 6) : StSame (stepF o s n g b) (stepF o t n g b) := by
  unfold stepF
  rw [← h.f]
  split
  · exact h
  · refine ⟨?_, cells_same h.c hA hB, rfl⟩
    show nextF o s n b = nextF o t n b
    unfold nextF
    rw [h.p, h.c _ hA]
theorem small_args {p : PD} {k : KD} {r : Nat} {c : List O3} {s : St} {o : O3} (h : Turn p k r c s o) : o.2.1.toNat < 6 ∧ (o.1 = 2 ∨ o.1 = 3 ∨ o.1 = 4 ∨ o.1 = 5 → o.2.2.toNat < 6) := by
  have hr := ok3_range h.ok
  have hb := (bA_le o.1).2
  refine ⟨by omega, fun hh => ?_⟩
  rcases hh with e | e | e | e <;> simp [e, bB] at hr <;> omega
/-- One turn of a room that sees the same. -/
theorem turn_same {p : PD} {k m : KD} {r : Nat} {c : List O3} {s t : St} {o : O3} (hk : Turn p k r c s o) (hm : Turn p m r c t o) (hs : StSame s t) (hl : o.1 = 8 ∨ o.1 = 9 → ∃ l, k.lines[o.2.2.toNat]? = some l ∧ m.lines[o.2.2.toNat]? = some l) (hrk : r < k.rooms.length) (hrm : r < m.rooms.length) :
    (turnK p k r).2 = (turnK p m r).2 ∧ ∃ s' t', (turnK p k r).1.rooms[r]? = some s' ∧ (turnK p m r).1.rooms[r]? = some t' ∧ StSame s' t' := by
  obtain ⟨hA, hB⟩ := small_args hk
  have hst : ∀ g b, StSame (stepF o s c.length g b) (stepF o t c.length g b) := fun g b => step_same hs hA hB
  cases hf : s.f with
  | true =>
    have hf' : t.f = true := by rw [← hs.f]; exact hf
    rw [turn_failed hk hf, turn_failed hm hf']
    exact ⟨by rw [hs.p], s, t, hk.hs, hm.hs, hs⟩
  | false =>
    have hf' : t.f = false := by rw [← hs.f]; exact hf
    by_cases h9 : o.1 = 9
    · obtain ⟨l, h1, h2⟩ := hl (Or.inr h9)
      cases hh : (headL l).2 with
      | true =>
        rw [turn_takes hk hf h9 h1 hh, turn_takes hm hf' h9 h2 hh]
        exact ⟨by rw [hs.p], _, _, List.getElem?_set_self hrk, List.getElem?_set_self hrm, hst _ _⟩
      | false =>
        rw [turn_waits hk hf h9 h1 hh, turn_waits hm hf' h9 h2 hh]
        exact ⟨by rw [hs.p], _, _, List.getElem?_set_self hrk, List.getElem?_set_self hrm, hst _ _⟩
    · by_cases h8 : o.1 = 8
      · obtain ⟨l, h1, h2⟩ := hl (Or.inl h8)
        rw [turn_sends hk hf h8 h1, turn_sends hm hf' h8 h2]
        exact ⟨by rw [hs.p], _, _, List.getElem?_set_self hrk, List.getElem?_set_self hrm, hst _ _⟩
      · rw [turn_else hk hf h8 h9, turn_else hm hf' h8 h9]
        exact ⟨by rw [hs.p], _, _, List.getElem?_set_self hrk, List.getElem?_set_self hrm, hst _ _⟩
/-- What is seen the same is the same line. -/
theorem sees_line : ∀ {ls ms : List LnD} {ws : List W4} {r : Int}, ls.length = ws.length → ms.length = ws.length → (∀ (i : Nat) l x, ls[i]? = some l → ws[i]? = some x → l.w = x) → (∀ (i : Nat) l x, ms[i]? = some l → ws[i]? = some x → l.w = x) →
    ((ls.filter (atR r)).map fun l => (l.xs, l.ls)) = ((ms.filter (atR r)).map fun l => (l.xs, l.ls)) → ∀ (i : Nat) x, ws[i]? = some x → x.1 = r ∨ x.2.1 = r → ls[i]? = ms[i]?
  | [], [], _, _, _, _, _, _, _, i, x, _, _ => by simp
  | [], _ :: _, ws, _, h1, h2, _, _, _, _, _, _, _ => by simp at h1 h2; omega
  | _ :: _, [], ws, _, h1, h2, _, _, _, _, _, _, _ => by simp at h1 h2; omega
  | l :: ls, m :: ms, [], _, h1, _, _, _, _, _, _, _, _ => by simp at h1
  | l :: ls, m :: ms, y :: ws, r, h1, h2, h3, h4, h5, i, x, hx, hr => by
    have e1 : l.w = y := h3 0 l y rfl rfl
    have e2 : m.w = y := h4 0 m y rfl rfl
    have ea : atR r m = atR r l := by unfold atR; rw [e1, e2]
    have rest : ((ls.filter (atR r)).map fun l => (l.xs, l.ls)) = ((ms.filter (atR r)).map fun l => (l.xs, l.ls)) ∧ (atR r l = true → l = m) := by
      cases hb : atR r l with
      | true =>
        rw [List.filter_cons_of_pos (by exact hb), List.filter_cons_of_pos (by rw [ea]; exact hb)] at h5
        simp only [List.map_cons, List.cons.injEq, Prod.mk.injEq] at h5
        refine ⟨h5.2, fun _ => ?_⟩
        obtain ⟨lw, lx, ll⟩ := l
        obtain ⟨mw, mx, ml⟩ := m
        simp only at e1 e2 h5
        rw [e1, e2, h5.1.1, h5.1.2]
      | false =>
        rw [List.filter_cons_of_neg (by rw [hb]; decide), List.filter_cons_of_neg (by rw [ea, hb]; decide)] at h5
        exact ⟨h5, fun h => by cases h⟩
    cases i with
    | zero =>
      simp only [List.getElem?_cons_zero, Option.some.injEq] at hx ⊢
      subst hx
      refine rest.2 ?_
      unfold atR
      rw [e1]
      rcases hr with hr | hr <;> simp [hr]
    | succ i =>
      simp only [List.getElem?_cons_succ] at hx ⊢
      exact sees_line (by simpa using h1) (by simpa using h2) (fun j l' x' hl hx => h3 (j + 1) l' x' (by simpa using hl) (by simpa using hx)) (fun j l' x' hl hx => h4 (j + 1) l' x' (by simpa using hl) (by simpa using hx)) rest.1 i x hx hr
/-- WHO SEES THE SAME DOES THE SAME: one tick. -/
theorem tick_same {p : PD} {k m : KD} (hp : plchk p = 0) (hk : KOk p k) (hm : KOk p m) (ht : k.time = m.time) {r : Nat} (hr : r < p.code.length) {s t : St} (hs : k.rooms[r]? = some s) (htt : m.rooms[r]? = some t) (hst : StSame s t) (hsee : seesK k r = seesK m r) :
    (tickK p p.spans k).2.2.1 = (tickK p p.spans m).2.2.1 ∧ ((tickK p p.spans k).2.2.1 = (r : Int) → (tickK p p.spans k).2 = (tickK p p.spans m).2 ∧ ∃ s' t', (tickK p p.spans k).1.rooms[r]? = some s' ∧ (tickK p p.spans m).1.rooms[r]? = some t' ∧ StSame s' t') := by
  have ew : whoK p k = whoK p m := by unfold whoK; rw [ht]
  refine ⟨by rw [(tick_told p k).2, (tick_told p m).2, ew], fun hw => ?_⟩
  rw [(tick_told p k).2] at hw
  have hwm : whoK p m = r := by rw [← ew]; exact hw
  have e1 : tickK p p.spans k = ((turnK p k r).1, k.time, (r : Int), (turnK p k r).2.1, (turnK p k r).2.2) := by
    unfold whoK at hw
    unfold tickK
    simp only [hw]
    rw [if_neg (by omega), Int.toNat_natCast]
  have e2 : tickK p p.spans m = ((turnK p m r).1, m.time, (r : Int), (turnK p m r).2.1, (turnK p m r).2.2) := by
    unfold whoK at hwm
    unfold tickK
    simp only [hwm]
    rw [if_neg (by omega), Int.toNat_natCast]
  obtain ⟨c, s0, o, tk⟩ := turn_of hp hk hr
  obtain rfl : s = s0 := Option.some.inj (hs.symm.trans tk.hs)
  have tm : Turn p m r c t o := ⟨tk.hc, htt, by rw [← hst.p]; exact tk.ho, tk.ck, hm.rooms r c t tk.hc htt, tk.ok⟩
  have hl : o.1 = 8 ∨ o.1 = 9 → ∃ l, k.lines[o.2.2.toNat]? = some l ∧ m.lines[o.2.2.toNat]? = some l := fun ho => by
    have hx : ∃ x, p.wires[o.2.2.toNat]? = some x ∧ (x.1 = (r : Int) ∨ x.2.1 = (r : Int)) := by
      have := op_wire hp tk.hc (List.mem_of_getElem? tk.ho)
      rcases ho with h8 | h9
      · obtain ⟨x, h1, h2⟩ := this.1 h8
        exact ⟨x, h1, Or.inl h2⟩
      · obtain ⟨x, h1, h2⟩ := this.2 h9
        exact ⟨x, h1, Or.inr h2⟩
    obtain ⟨x, hx1, hx2⟩ := hx
    have hlt : o.2.2.toNat < k.lines.length := by rw [hk.ll]; exact (List.getElem?_eq_some_iff.1 hx1).1
    have hl1 : k.lines[o.2.2.toNat]? = some k.lines[o.2.2.toNat] := List.getElem?_eq_getElem hlt
    have := sees_line hk.ll hm.ll (fun i l x h1 h2 => (hk.lines i l x h1 h2).w) (fun i l x h1 h2 => (hm.lines i l x h1 h2).w) hsee _ x hx1 hx2
    exact ⟨_, hl1, by rw [← this]; exact hl1⟩
  have hrl : r < k.rooms.length := by rw [hk.rl]; exact hr
  have hrm : r < m.rooms.length := by rw [hm.rl]; exact hr
  obtain ⟨q1, q2⟩ := turn_same tk tm hst hl hrl hrm
  rw [e1, e2]
  refine ⟨?_, q2⟩
  rw [ht, q1]
end Go.Proofs.YteoemcekkcnplaeGreatDoor
namespace Go.Proofs.YteoemcekkcnplaeGreatDoor
open Go.RowKit

/-- Run: the states of a room of a new kernel. -/
def SgtRun (G : World → Prop) : Prop := ∀ (p : PD) (vc vs vw : Value) (n r : Int) (W : World), G W → Pln W vc vs vw p → Calls Tryz.prog 26 #[plV vc p.ticks vs vw, .int .i64 n, .int .i64 r] W fun e w' => ∃ v, e = .returned (.tuple #[v, wErr (runE p n r)]) ∧ StL w' v (if runE p n r = 0 then statesK p n.toNat r.toNat else []) ∧ Below W.heap.size W w'
end Go.Proofs.YteoemcekkcnplaeGreatDoor
namespace Go.Proofs.YteoemcekkcnplaeGreatDoor

/-- Code that rests. -/
def restC : List O3 := [(10, 0, 0)]
/-- Codes of which all but some rest. -/
def purgeC (R : Nat → Bool) : Nat → List (List O3) → List (List O3)
  | _, [] => []
  | i, c :: l => (if R i = true then c else restC) :: purgeC R (i + 1) l
def purgeP (p : PD) (R : Nat → Bool) : PD := ⟨purgeC R 0 p.code, p.ticks, p.spans, p.wires⟩
theorem purgeC_len (R : Nat → Bool) : ∀ (i : Nat) (l : List (List O3)), (purgeC R i l).length = l.length
  | _, [] => rfl
  | i, c :: l => by simp [purgeC, purgeC_len R (i + 1) l]
theorem purgeC_at (R : Nat → Bool) : ∀ (i : Nat) (l : List (List O3)) (j : Nat), (purgeC R i l)[j]? = (l[j]?).map fun c => if R (i + j) = true then c else restC
  | _, [], j => by simp [purgeC]
  | i, c :: l, 0 => by simp [purgeC]
  | i, c :: l, j + 1 => by
    simp only [purgeC, List.getElem?_cons_succ]
    rw [purgeC_at R (i + 1) l j, show i + 1 + j = i + (j + 1) by omega]
theorem rest_chk : (chk restC).2 = 0 := by decide +kernel
theorem rest_ports (ws : List W4) (i : Nat) : portsB ws i restC = false := by
  have h8 : wiresB 8 restC = [] := by decide +kernel
  have h9 : wiresB 9 restC = [] := by decide +kernel
  unfold portsB
  rw [h8, h9]
  rfl
theorem purge_codes (R : Nat → Bool) : ∀ (i : Nat) (l : List (List O3)), codesE l = 0 → codesE (purgeC R i l) = 0
  | _, [], _ => rfl
  | i, c :: l, h => by
    unfold codesE at h
    have hc : (chk c).2 = 0 ∧ codesE l = 0 := by
      split at h
      · rename_i h1
        exact ⟨h1, h⟩
      · rename_i h1
        exact absurd h h1
    have hq : (chk (if R i = true then c else restC)).2 = 0 := by
      split
      · exact hc.1
      · exact rest_chk
    show codesE ((if R i = true then c else restC) :: purgeC R (i + 1) l) = 0
    unfold codesE
    rw [if_pos hq]
    exact purge_codes R (i + 1) l hc.2
theorem purge_ports (R : Nat → Bool) (ws : List W4) : ∀ (i : Nat) (l : List (List O3)), portsAny ws i l = false → portsAny ws i (purgeC R i l) = false
  | _, [], _ => rfl
  | i, c :: l, h => by
    rw [portsAny, Bool.or_eq_false_iff] at h
    show portsAny ws i ((if R i = true then c else restC) :: purgeC R (i + 1) l) = false
    rw [portsAny, Bool.or_eq_false_iff]
    refine ⟨?_, purge_ports R ws (i + 1) l h.2⟩
    split
    · exact h.1
    · exact rest_ports ws i
/-- A plan that is right is right without those. -/
theorem purge_right {p : PD} (R : Nat → Bool) (h : plchk p = 0) : plchk (purgeP p R) = 0 := by
  obtain ⟨h1, h2, h3, h4, h5, h6, h7, h8⟩ := plchk_zero h
  unfold plchk purgeP
  simp only [purgeC_len]
  rw [if_neg (by omega), if_neg h2, if_neg (by simpa using h3), if_neg (by simpa using h4), if_neg (by rw [h5]; decide), if_neg (by rw [h6]; decide), if_neg (by simpa using purge_codes R 0 _ h7), if_neg (by rw [purge_ports R _ 0 _ h8]; decide)]
/-- Who leads to one of them is one of them. -/
def ClosedR (ws : List W4) (R : Nat → Bool) : Prop := ∀ x ∈ ws, ∀ a b : Nat, x.1 = (a : Int) → x.2.1 = (b : Int) → R b = true → R a = true
theorem way_closed (ws : List W4) (r : Nat) (hw : ∀ x ∈ ws, ∀ b : Nat, x.2.1 = (b : Int) → b < 5) : ClosedR ws (fun i => way ws i r) := fun x hx a b ha hb hr => by
  have h1 : way ws a b = true := pm_edge _ 5 a b (by
    unfold edge
    rw [Bool.or_eq_true, List.any_eq_true]
    exact Or.inr ⟨x, hx, by simp [ha, hb]⟩)
  exact way_trans ws (hw x hx b hb) h1 hr
/-- Two kernels that are the same for some rooms, and the wires that lead to them. -/
structure Sim (ws : List W4) (R : Nat → Bool) (k m : KD) : Prop where
  time : k.time = m.time
  rooms : ∀ i, R i = true → k.rooms[i]? = m.rooms[i]?
  lines : ∀ (i : Nat) x (b : Nat), ws[i]? = some x → x.2.1 = (b : Int) → R b = true → k.lines[i]? = m.lines[i]?
theorem sim_new (p : PD) (R : Nat → Bool) : Sim p.wires R (newK p) (newK (purgeP p R)) := by
  refine ⟨rfl, fun i _ => ?_, fun i x b _ _ _ => rfl⟩
  simp only [newK, purgeP, List.getElem?_map, purgeC_at]
  cases p.code[i]? <;> rfl
/-- A room that is one of them does its turn alike. -/
theorem turn_sim {p q : PD} {R : Nat → Bool} {k m : KD} {r : Nat} {c : List O3} {s : St} {o : O3} (hp : plchk p = 0) (hk : KOk p k) (hm : KOk q m) (hqw : q.wires = p.wires) (tk : Turn p k r c s o) (tm : Turn q m r c s o) (hr : R r = true) (h : Sim p.wires R k m) : Sim p.wires R (turnK p k r).1 (turnK q m r).1 := by
  have hrk : r < k.rooms.length := (List.getElem?_eq_some_iff.1 tk.hs).1
  have hrm : r < m.rooms.length := (List.getElem?_eq_some_iff.1 tm.hs).1
  have ht : k.time + 1 = m.time + 1 := by rw [h.time]
  have hrooms : ∀ (s' : St) i, R i = true → (k.rooms.set r s')[i]? = (m.rooms.set r s')[i]? := fun s' i hi => by
    by_cases hir : r = i
    · subst hir
      rw [List.getElem?_set_self hrk, List.getElem?_set_self hrm]
    · rw [List.getElem?_set_ne hir, List.getElem?_set_ne hir]
      exact h.rooms i hi
  have hop := op_wire hp tk.hc (List.mem_of_getElem? tk.ho)
  have hset : ∀ (z : Nat) (l : LnD) (i : Nat), k.lines[z]? ≠ none → m.lines[z]? ≠ none → k.lines[i]? = m.lines[i]? → (k.lines.set z l)[i]? = (m.lines.set z l)[i]? := fun z l i h1 h2 h3 => by
    by_cases hzi : z = i
    · subst hzi
      have hz1 : z < k.lines.length := by
        rcases Nat.lt_or_ge z k.lines.length with h4 | h4
        · exact h4
        · exact absurd (List.getElem?_eq_none h4) h1
      have hz2 : z < m.lines.length := by
        rcases Nat.lt_or_ge z m.lines.length with h4 | h4
        · exact h4
        · exact absurd (List.getElem?_eq_none h4) h2
      rw [List.getElem?_set_self hz1, List.getElem?_set_self hz2]
    · rw [List.getElem?_set_ne hzi, List.getElem?_set_ne hzi]
      exact h3
  cases hf : s.f with
  | true =>
    rw [turn_failed tk hf, turn_failed tm hf]
    exact ⟨ht, h.rooms, h.lines⟩
  | false =>
    by_cases h9 : o.1 = 9
    · obtain ⟨x, hx, hxr⟩ := hop.2 h9
      have hlt : o.2.2.toNat < k.lines.length := by rw [hk.ll]; exact (List.getElem?_eq_some_iff.1 hx).1
      have hl1 : k.lines[o.2.2.toNat]? = some k.lines[o.2.2.toNat] := List.getElem?_eq_getElem hlt
      have hl2 : m.lines[o.2.2.toNat]? = some k.lines[o.2.2.toNat] := by rw [← h.lines _ x r hx hxr hr]; exact hl1
      generalize k.lines[o.2.2.toNat] = l at hl1 hl2
      cases hh : (headL l).2 with
      | true =>
        rw [turn_takes tk hf h9 hl1 hh, turn_takes tm hf h9 hl2 hh]
        exact ⟨ht, hrooms _, fun i y b hy hb hR => hset _ _ i (by rw [hl1]; simp) (by rw [hl2]; simp) (h.lines i y b hy hb hR)⟩
      | false =>
        rw [turn_waits tk hf h9 hl1 hh, turn_waits tm hf h9 hl2 hh]
        exact ⟨ht, hrooms _, h.lines⟩
    · by_cases h8 : o.1 = 8
      · obtain ⟨x, hx, hxr⟩ := hop.1 h8
        have hlt : o.2.2.toNat < k.lines.length := by rw [hk.ll]; exact (List.getElem?_eq_some_iff.1 hx).1
        have hlt2 : o.2.2.toNat < m.lines.length := by rw [hm.ll, hqw]; exact (List.getElem?_eq_some_iff.1 hx).1
        have hl1 : k.lines[o.2.2.toNat]? = some k.lines[o.2.2.toNat] := List.getElem?_eq_getElem hlt
        have hl2 : m.lines[o.2.2.toNat]? = some m.lines[o.2.2.toNat] := List.getElem?_eq_getElem hlt2
        rw [turn_sends tk hf h8 hl1, turn_sends tm hf h8 hl2]
        refine ⟨ht, hrooms _, fun i y b hy hb hR => ?_⟩
        by_cases hzi : o.2.2.toNat = i
        · subst hzi
          have he := h.lines _ y b hy hb hR
          rw [hl1, hl2] at he
          rw [Option.some.inj he]
          rw [List.getElem?_set_self hlt, List.getElem?_set_self hlt2]
        · show (k.lines.set _ _)[i]? = (m.lines.set _ _)[i]?
          rw [List.getElem?_set_ne hzi, List.getElem?_set_ne hzi]
          exact h.lines i y b hy hb hR
      · rw [turn_else tk hf h8 h9, turn_else tm hf h8 h9]
        exact ⟨ht, hrooms _, h.lines⟩
/-- WHO CANNOT TELL DOES NOT MATTER: one tick. -/
theorem sim_tick {p : PD} {R : Nat → Bool} {k m : KD} (hp : plchk p = 0) (hk : KOk p k) (hm : KOk (purgeP p R) m) (hc : ClosedR p.wires R) (hw0 : ∀ x ∈ p.wires, 0 ≤ x.1) (h : Sim p.wires R k m) : Sim p.wires R (tickK p p.spans k).1 (tickK (purgeP p R) (purgeP p R).spans m).1 := by
  have hq := purge_right R hp
  have ew : whoK (purgeP p R) m = whoK p k := by
    unfold whoK purgeP
    rw [h.time]
  have htime : (tickK p p.spans k).1.time = (tickK (purgeP p R) (purgeP p R).spans m).1.time := by rw [tick_time, tick_time, h.time]
  by_cases hneg : whoK p k < 0
  · have e1 : tickK p p.spans k = (⟨k.rooms, k.lines, k.time + 1⟩, k.time, whoK p k, 0, 0) := by
      unfold whoK at hneg ⊢
      unfold tickK
      simp only
      rw [if_pos hneg]
    have e2 : (tickK (purgeP p R) (purgeP p R).spans m).1 = ⟨m.rooms, m.lines, m.time + 1⟩ := by
      have hneg2 : whoK (purgeP p R) m < 0 := by rw [ew]; exact hneg
      unfold whoK at hneg2
      unfold tickK
      simp only
      rw [if_pos hneg2]
    rw [e1, e2]
    exact ⟨by rw [h.time], h.rooms, h.lines⟩
  · obtain ⟨rn, hrn⟩ : ∃ n : Nat, whoK p k = n := ⟨(whoK p k).toNat, by omega⟩
    have hrl : rn < p.code.length := by
      have := (who_room hp (k.time % p.ticks)).2
      unfold whoK at hrn
      rw [hrn] at this
      simpa using this (by omega)
    have hrl2 : rn < (purgeP p R).code.length := by
      show rn < (purgeC R 0 p.code).length
      rw [purgeC_len]
      exact hrl
    cases hR : R rn with
    | false =>
      refine ⟨htime, fun i hi => ?_, fun i x b hx hb hRb => ?_⟩
      · have hne : i ≠ rn := fun e => by rw [e, hR] at hi; cases hi
        rw [tick_room (p := p) (k := k) (r := i) (by rw [hrn]; omega), tick_room (p := purgeP p R) (k := m) (r := i) (by rw [ew, hrn]; omega)]
        exact h.rooms i hi
      · obtain ⟨a, ha⟩ : ∃ n : Nat, x.1 = n := ⟨x.1.toNat, by have := hw0 x (List.mem_of_getElem? hx); omega⟩
        have hRa := hc x (List.mem_of_getElem? hx) a b ha hb hRb
        have hne1 : a ≠ rn := fun e => by rw [e, hR] at hRa; cases hRa
        have hne2 : b ≠ rn := fun e => by rw [e, hR] at hRb; cases hRb
        rw [tick_line hp hk hx (by rw [ha, hrn]; omega) (by rw [hb, hrn]; omega), tick_line hq hm (show (purgeP p R).wires[i]? = some x from hx) (by rw [ha, ew, hrn]; omega) (by rw [hb, ew, hrn]; omega)]
        exact h.lines i x b hx hb hRb
    | true =>
      have e1 : (tickK p p.spans k).1 = (turnK p k rn).1 := by
        unfold whoK at hrn
        unfold tickK
        simp only [hrn]
        rw [if_neg (by omega), Int.toNat_natCast]
      have e2 : (tickK (purgeP p R) (purgeP p R).spans m).1 = (turnK (purgeP p R) m rn).1 := by
        have hrn2 : whoK (purgeP p R) m = rn := by rw [ew]; exact hrn
        unfold whoK at hrn2
        unfold tickK
        simp only [hrn2]
        rw [if_neg (by omega), Int.toNat_natCast]
      rw [e1, e2]
      obtain ⟨c, s, o, tk⟩ := turn_of hp hk hrl
      have hs2 : m.rooms[rn]? = some s := by rw [← h.rooms rn hR]; exact tk.hs
      have hc2 : (purgeP p R).code[rn]? = some c := by
        show (purgeC R 0 p.code)[rn]? = some c
        rw [purgeC_at, tk.hc, Nat.zero_add]
        simp [hR]
      have tm : Turn (purgeP p R) m rn c s o := ⟨hc2, hs2, tk.ho, tk.ck, tk.st, tk.ok⟩
      exact turn_sim hp hk hm rfl tk tm hR h
/-- .. all along. -/
theorem sim_all {p : PD} {R : Nat → Bool} (hp : plchk p = 0) (hc : ClosedR p.wires R) (hw0 : ∀ x ∈ p.wires, 0 ≤ x.1) : ∀ t, Sim p.wires R (kT p t) (kT (purgeP p R) t)
  | 0 => sim_new p R
  | t + 1 => sim_tick hp (kT_ok hp t) (kT_ok (purge_right R hp) t) hc hw0 (sim_all hp hc hw0 t)
theorem purge_states {p : PD} {r : Nat} (hp : plchk p = 0) (n : Nat) : statesK (purgeP p (fun i => way p.wires i r)) n r = statesK p n r := by
  have hrange : ∀ x ∈ p.wires, 0 ≤ x.1 ∧ x.1 < 5 ∧ 0 ≤ x.2.1 ∧ x.2.1 < 5 := fun x hx => by
    have h1 := (wschk_ok (plchk_zero hp).2.2.2.1).2 x hx
    unfold w4chk wchk at h1
    split at h1
    · rename_i h2
      omega
    · cases h1
  have h := sim_all hp (way_closed p.wires r (fun x hx b hb => by have := hrange x hx; omega)) (fun x hx => (hrange x hx).1)
  unfold statesK
  apply List.map_congr_left
  intro t _
  have := (h t).rooms r (way_self _ _)
  rw [List.getD, List.getD, this]
end Go.Proofs.YteoemcekkcnplaeGreatDoor
namespace Go.Proofs.YteoemcekkcnplaeGreatDoor
open Go.RowKit

/-- No plan. -/
def noPlan : PD := ⟨[], 0, [], []⟩
/-- The plan without those that cannot tell a room. -/
def prgP (p : PD) (r : Int) : PD := if prgE p r = 0 then purgeP p (fun i => way p.wires i r.toNat) else noPlan
def PrgPurge (G : World → Prop) : Prop := ∀ (p : PD) (vc vs vw : Value) (r : Int) (W : World), G W → Pln W vc vs vw p → Calls Tryz.prog 6 #[plV vc p.ticks vs vw, .int .i64 r] W fun e w' => ∃ ic is iw, e = .returned (.tuple #[plV ic (prgP p r).ticks is iw, wErr (prgE p r)]) ∧ Pln w' ic is iw (prgP p r) ∧ Below W.heap.size W w'
end Go.Proofs.YteoemcekkcnplaeGreatDoor
namespace Go.Proofs.YteoemcekkcnplaeGreatDoor
open Go.RowKit

/-- Do two states look the same? -/
def likeS (s t : St) : Bool := decide (s.p = t.p) && (decide (s.c 0 = t.c 0) && (decide (s.c 1 = t.c 1) && (decide (s.c 2 = t.c 2) && (decide (s.c 3 = t.c 3) && (decide (s.c 4 = t.c 4) && (decide (s.c 5 = t.c 5) && (s.f == t.f)))))))
theorem likeS_refl (s : St) : likeS s s = true := by simp [likeS]
/-- What is wrong where two are held against each other. -/
def likeE (p q : PD) (n r : Int) : Int := if plchk p = 0 then (if plchk q = 0 then (if r < 0 ∨ (p.code.length : Int) ≤ r ∨ (q.code.length : Int) ≤ r ∨ n < 0 ∨ 2000 < n then 1 else 0) else plchk q) else plchk p
/-- The first place at which two rows of states part; -1: none. -/
def partAt : List St → List St → Nat → Int
  | s :: l, t :: m, i => if likeS s t = true then partAt l m (i + 1) else (i : Int)
  | _, _, _ => -1
theorem partAt_same : ∀ (l : List St) (i : Nat), partAt l l i = -1
  | [], _ => rfl
  | s :: l, i => by
    rw [partAt, if_pos (likeS_refl s)]
    exact partAt_same l (i + 1)
def likeAt (p q : PD) (n r : Int) : Int := if likeE p q n r = 0 then partAt (statesK p n.toNat r.toNat) (statesK q n.toNat r.toNat) 0 else 0
def PrgSame (G : World → Prop) : Prop := ∀ (p q : PD) (vc vs vw ic is iw : Value) (n r : Int) (W : World), G W → Pln W vc vs vw p → Pln W ic is iw q → Calls Tryz.prog 10 #[plV vc p.ticks vs vw, plV ic q.ticks is iw, .int .i64 n, .int .i64 r] W fun e w' => e = .returned (.tuple #[.int .i64 (likeAt p q n r), wErr (likeE p q n r)]) ∧ Below W.heap.size W w'
/-- WHO CANNOT TELL DOES NOT MATTER, as package purge tells it. -/
theorem like_purged {p : PD} {n r : Int} (hz : prgE p r = 0) (hn : 0 ≤ n) (hn2 : n ≤ 400) : likeE p (prgP p r) n r = 0 ∧ likeAt p (prgP p r) n r = -1 ∧ plchk (prgP p r) = 0 := by
  have hq : prgP p r = purgeP p (fun i => way p.wires i r.toNat) := by
    unfold prgP
    rw [if_pos hz]
  have hpp : plchk p = 0 ∧ 0 ≤ r ∧ r < (p.code.length : Int) := by
    unfold prgE at hz
    split at hz
    · rename_i h1
      split at hz
      · omega
      · exact ⟨h1, by omega, by omega⟩
    · omega
  have hr := purge_right (fun i => way p.wires i r.toNat) hpp.1
  have he : likeE p (prgP p r) n r = 0 := by
    have hl : ((prgP p r).code.length : Int) = p.code.length := by
      rw [hq]
      show ((purgeC _ 0 p.code).length : Int) = _
      rw [purgeC_len]
    unfold likeE
    rw [if_pos hpp.1, hl, hq, if_pos hr, if_neg (by omega)]
  refine ⟨he, ?_, by rw [hq]; exact hr⟩
  unfold likeAt
  rw [if_pos he, hq, purge_states hpp.1]
  exact partAt_same _ _
end Go.Proofs.YteoemcekkcnplaeGreatDoor
namespace Go.Proofs.YteoemcekkcnplaeGreatDoor
open Go.RowKit

/-- Behind the boxes of two plans. -/
def Bxt (w W : World) (pc : Value) (pn : Int) (ps pw qc : Value) (qn : Int) (qs qw : Value) : Prop := Below (w.heap.size + 2) ((w.alloc (.cells #[pc, .int .i64 pn, ps, pw] 26)).alloc (.cells #[qc, .int .i64 qn, qs, qw] 26)) W
section
variable {w W : World} {pc ps pw qc qs qw : Value} {pn qn : Int}
theorem Bxt.first (w : World) (pc : Value) (pn : Int) (ps pw qc : Value) (qn : Int) (qs qw : Value) : Bxt w ((w.alloc (.cells #[pc, .int .i64 pn, ps, pw] 26)).alloc (.cells #[qc, .int .i64 qn, qs, qw] 26)) pc pn ps pw qc qn qs qw := Below.refl _ _
theorem Bxt.size (h : Bxt w W pc pn ps pw qc qn qs qw) : w.heap.size + 2 ≤ W.heap.size := by
  have := Below.size h
  simpa using this
theorem Bxt.step {W' : World} (h : Bxt w W pc pn ps pw qc qn qs qw) (hb : Below W.heap.size W W') : Bxt w W' pc pn ps pw qc qn qs qw := Below.trans h (hb.mono h.size)
theorem Bxt.set {W' : World} (h : Bxt w W pc pn ps pw qc qn qs qw) {M : List Nat} (hb : KTouch M W W') (hM : ∀ m ∈ M, w.heap.size + 2 ≤ m) : Bxt w W' pc pn ps pw qc qn qs qw := Below.trans h (hb.below hM h.size)
theorem Bxt.below (h : Bxt w W pc pn ps pw qc qn qs qw) : Below w.heap.size w W := (((Below.refl _ _).alloc (Nat.le_refl _) _).alloc (by simp) _).trans (Below.mono h (Nat.le_add_right _ _))
theorem Bxt.cs (h : Bxt w W pc pn ps pw qc qn qs qw) : W.cell? ⟨w.heap.size, 0, none⟩ = some pc ∧ W.cell? ⟨w.heap.size, 1, none⟩ = some (.int .i64 pn) ∧ W.cell? ⟨w.heap.size, 2, none⟩ = some ps ∧ W.cell? ⟨w.heap.size, 3, none⟩ = some pw :=
  ⟨(Below.cell h (p := ⟨w.heap.size, 0, none⟩) (by simp)).trans (by simp), (Below.cell h (p := ⟨w.heap.size, 1, none⟩) (by simp)).trans (by simp), (Below.cell h (p := ⟨w.heap.size, 2, none⟩) (by simp)).trans (by simp), (Below.cell h (p := ⟨w.heap.size, 3, none⟩) (by simp)).trans (by simp)⟩
theorem Bxt.ds (h : Bxt w W pc pn ps pw qc qn qs qw) : W.cell? ⟨w.heap.size + 1, 0, none⟩ = some qc ∧ W.cell? ⟨w.heap.size + 1, 1, none⟩ = some (.int .i64 qn) ∧ W.cell? ⟨w.heap.size + 1, 2, none⟩ = some qs ∧ W.cell? ⟨w.heap.size + 1, 3, none⟩ = some qw :=
  ⟨(Below.cell h (p := ⟨w.heap.size + 1, 0, none⟩) (by simp)).trans (by simp), (Below.cell h (p := ⟨w.heap.size + 1, 1, none⟩) (by simp)).trans (by simp), (Below.cell h (p := ⟨w.heap.size + 1, 2, none⟩) (by simp)).trans (by simp), (Below.cell h (p := ⟨w.heap.size + 1, 3, none⟩) (by simp)).trans (by simp)⟩
end
/-- From behind: one state more. -/
theorem partAt_drop {l m : List St} {j : Nat} {s t : St} (hl : l[j]? = some s) (hm : m[j]? = some t) : partAt (l.drop j) (m.drop j) j = if likeS s t = true then partAt (l.drop (j + 1)) (m.drop (j + 1)) (j + 1) else (j : Int) := by
  obtain ⟨h1, rfl⟩ := List.getElem?_eq_some_iff.1 hl
  obtain ⟨h2, rfl⟩ := List.getElem?_eq_some_iff.1 hm
  rw [List.drop_eq_getElem_cons h1, List.drop_eq_getElem_cons h2, partAt]
theorem partAt_end {l m : List St} {j : Nat} (hl : l.length ≤ j) : partAt (l.drop j) (m.drop j) j = -1 := by
  rw [List.drop_eq_nil_of_le hl]
  cases m.drop j <;> rfl
/-- What the law does with its n. -/
def nnP (n : Int) : Int := if 200 < n ∧ n ≤ 2000 then n % 200 else n
def badL (p q : PD) (n r : Int) : Prop := r < 0 ∨ (p.code.length : Int) ≤ r ∨ (q.code.length : Int) ≤ r ∨ n < 0 ∨ 2000 < n
instance (p q : PD) (n r : Int) : Decidable (badL p q n r) := by unfold badL; infer_instance
/-- What is wrong with two plans. -/
def twoE (p q : PD) : Int := if plchk p = 0 then plchk q else plchk p
theorem likeE_two (p q : PD) (n r : Int) : likeE p q n r = if twoE p q = 0 ∧ badL p q n r then 1 else twoE p q := by
  unfold likeE twoE badL
  by_cases h : plchk p = 0
  · by_cases h2 : plchk q = 0
    · rw [if_pos h, if_pos h2, if_pos h, h2]
      by_cases h3 : r < 0 ∨ (p.code.length : Int) ≤ r ∨ (q.code.length : Int) ≤ r ∨ n < 0 ∨ 2000 < n
      · rw [if_pos h3, if_pos ⟨rfl, h3⟩]
      · rw [if_neg h3, if_neg (fun e => h3 e.2)]
    · rw [if_pos h, if_neg h2, if_pos h, if_neg (fun e => h2 e.1)]
  · rw [if_neg h, if_neg h, if_neg (fun e => h e.1)]
theorem likeE_zero {p q : PD} {n r : Int} (h : likeE p q n r = 0) : plchk p = 0 ∧ plchk q = 0 ∧ 0 ≤ r ∧ r < (p.code.length : Int) ∧ r < (q.code.length : Int) ∧ 0 ≤ n ∧ n ≤ 2000 := by
  unfold likeE at h
  split at h
  · rename_i h1
    split at h
    · rename_i h2
      split at h
      · omega
      · exact ⟨h1, h2, by omega, by omega, by omega, by omega, by omega⟩
    · omega
  · omega
end Go.Proofs.YteoemcekkcnplaeGreatDoor
namespace Go.Proofs.YteoemcekkcnplaeGreatDoor
open Go.RowKit

/-- The plan is being made: codes so far. -/
structure QP (b0 : Nat) (w1 W : World) (p : PD) (R : Nat → Bool) (kb : Nat) (vs vw cv : Value) (us : List Value) : Prop where
  tk : KTouch [kb] w1 W
  kl : kb < w1.heap.size
  k0 : b0 ≤ kb
  blk : W.heap[kb]? = some (.cells #[cv, .int .i64 p.ticks, vs, vw] 26 (0, 0))
  own : W.ownsRow w1.heap.size 51 1 cv us.length us
  ops : ∀ (i : Nat) u c, us[i]? = some u → p.code[i]? = some c → Ops W u (if R i = true then c else restC)
  ap : ∀ u ∈ us, ∀ g, u.ownBlock = some g → (g < b0 ∨ w1.heap.size ≤ g) ∧ g < W.heap.size ∧ cv.ownBlock ≠ some g
  len : us.length ≤ p.code.length
theorem QP.cs {b0 : Nat} {w1 W : World} {p : PD} {R : Nat → Bool} {kb : Nat} {vs vw cv : Value} {us : List Value} (h : QP b0 w1 W p R kb vs vw cv us) : W.cell? ⟨kb, 0, none⟩ = some cv ∧ W.cell? ⟨kb, 1, none⟩ = some (.int .i64 p.ticks) ∧ W.cell? ⟨kb, 2, none⟩ = some vs ∧ W.cell? ⟨kb, 3, none⟩ = some vw ∧ W.frozen? ⟨kb, 0, none⟩ = false := by
  have e := h.blk
  simp [World.cell?, World.frozen?, e]
/-- One code more: one of the plan's, or one that rests. -/
theorem QP.more {b0 : Nat} {w1 W w2 wa : World} {p : PD} {R : Nat → Bool} {kb : Nat} {vs vw cv cv' u : Value} {us : List Value} {c : List O3} (h : QP b0 w1 W p R kb vs vw cv us) (hc : p.code[us.length]? = some c) (b2 : Below W.heap.size W w2) (hu : Ops w2 u (if R us.length = true then c else restC))
    (hua : ∀ g, u.ownBlock = some g → (g < b0 ∨ W.heap.size ≤ g) ∧ g < w2.heap.size)
    (hg : (w2.alloc (.cells #[u] 51)).grownBy wa cv.ownBlock) (hown : wa.ownsRow w1.heap.size 51 1 cv' (us.length + 1) (us ++ [u])) (hnew : ∀ g, cv'.ownBlock = some g → cv.ownBlock = some g ∨ w2.heap.size + 1 ≤ g) : QP b0 w1 (wa.setCell ⟨kb, 0, none⟩ cv') p R kb vs vw cv' (us ++ [u]) := by
  have b3 : Below W.heap.size W (w2.alloc (.cells #[u] 51)) := b2.alloc b2.size _
  have hs3 : (w2.alloc (.cells #[u] 51)).heap.size = w2.heap.size + 1 := by simp
  have hs := h.tk.size
  have hs2 := b2.size
  have hga := hg.size
  rw [hs3] at hga
  have hkl := h.kl
  have hk0 := h.k0
  have hcr : ∀ k, cv.ownBlock = some k → w1.heap.size ≤ k ∧ k < W.heap.size := fun k hk => h.own.lt k hk
  have hset : ∀ k, k ≠ kb → (wa.setCell ⟨kb, 0, none⟩ cv').heap[k]? = wa.heap[k]? := fun k hk => Below.heap_setCell _ _ _ _ hk
  have hsz2 : (wa.setCell ⟨kb, 0, none⟩ cv').heap.size = wa.heap.size := by simp
  have hold : ∀ k, k < w2.heap.size → k ≠ kb → cv.ownBlock ≠ some k → (wa.setCell ⟨kb, 0, none⟩ cv').heap[k]? = w2.heap[k]? := fun k h2 h3 h4 => (hset k h3).trans ((hg.block k (by rw [hs3]; omega) (fun e => h4 e.symm)).trans (((Below.refl _ w2).alloc (Nat.le_refl _) _).block k h2))
  have hune : ∀ g, u.ownBlock = some g → g ≠ kb ∧ cv.ownBlock ≠ some g := fun g hg' => by
    obtain ⟨h1, _⟩ := hua g hg'
    refine ⟨by omega, fun e => ?_⟩
    have := hcr g e
    omega
  refine ⟨⟨(hg.os.trans (b3.os.trans h.tk.os)), (hg.tape.trans (b3.tape.trans h.tk.tape)), (hg.output.trans (b3.output.trans h.tk.output)), by omega, fun k hk hm => ?_⟩, h.kl, h.k0, ?_, ?_, fun i x d hx hd => ?_, fun x hx g hgx => ?_, ?_⟩
  · have hkk : k ≠ kb := fun e => hm (by simp [e])
    refine (hset k hkk).trans ((hg.block k (by rw [hs3]; omega) (fun e => ?_)).trans ((b3.block k (by omega)).trans (h.tk.block k hk hm)))
    have := (hcr k e.symm).1
    omega
  · have hlt : kb < W.heap.size := by omega
    have e : wa.heap[kb]? = some (.cells #[cv, .int .i64 p.ticks, vs, vw] 26 (0, 0)) := (hg.block kb (by rw [hs3]; omega) (fun e => by have := (hcr kb e.symm).1; omega)).trans ((b3.block kb hlt).trans h.blk)
    simp [World.setCell, Array.getElem?_modify, e]
  · rw [List.length_append]
    exact ownsRow_setCell_below hown (a := ⟨kb, 0, none⟩) h.kl cv'
  · by_cases hi : i < us.length
    · rw [List.getElem?_append_left hi] at hx
      have ho := h.ops i x d hx hd
      refine (ho.all b2).block (fun k hk he => ?_) (by omega)
      obtain ⟨h1, h2, h3⟩ := h.ap x (List.mem_of_getElem? hx) k he
      exact hold k hk (by omega) h3
    · have hlt := (List.getElem?_eq_some_iff.1 hx).1
      rw [List.length_append, List.length_singleton] at hlt
      obtain rfl : i = us.length := by omega
      rw [List.getElem?_append_right (Nat.le_refl _), Nat.sub_self] at hx
      simp only [List.getElem?_cons_zero, Option.some.injEq] at hx
      subst hx
      rw [hc] at hd
      obtain rfl := Option.some.inj hd
      exact hu.block (fun k hk he => hold k hk (hune k he).1 (hune k he).2) (by omega)
  · rcases List.mem_append.1 hx with h1 | h1
    · obtain ⟨h2, h3, h4⟩ := h.ap x h1 g hgx
      refine ⟨h2, by omega, fun e => ?_⟩
      rcases hnew g e with h5 | h5
      · exact h4 h5
      · omega
    · rw [List.mem_singleton] at h1
      subst h1
      obtain ⟨h2, h3⟩ := hua g hgx
      refine ⟨by omega, by omega, fun e => ?_⟩
      rcases hnew g e with h5 | h5
      · exact (hune g hgx).2 h5
      · omega
  · rw [List.length_append, List.length_singleton]
    exact (List.getElem?_eq_some_iff.1 hc).1
/-- All of them, read elsewhere than in two blocks of the caller's. -/
theorem QP.cds {b0 : Nat} {w1 W W' : World} {p : PD} {R : Nat → Bool} {kb : Nat} {vs vw cv : Value} {us : List Value} (h : QP b0 w1 W p R kb vs vw cv us) (hl : us.length = p.code.length) {M : List Nat} (ht : KTouch M W W') (hM : ∀ m ∈ M, b0 ≤ m ∧ m < w1.heap.size) : Cds W' cv (purgeC R 0 p.code) := by
  have hrl := h.own.lt
  have hcs := @World.ownsRow.cells _ _ _ _ _ _ _ h.own
  have hlen : (purgeC R 0 p.code).length = us.length := by rw [purgeC_len, hl]
  rcases h.own.2 with ⟨rfl, h0⟩ | ⟨g, cap, cur, rfl, hge, _, hcap, _⟩
  · exact Or.inl ⟨List.eq_nil_of_length_eq_zero (by rw [hlen]; exact h0), _, _, rfl⟩
  · refine Or.inr ⟨g, 0, cap, by rw [hlen], by rw [hlen]; exact hcap, Nat.lt_of_lt_of_le (hrl g rfl).2 ht.size, fun i d hd => ?_⟩
    rw [purgeC_at] at hd
    obtain ⟨c, hc, hcd⟩ := Option.map_eq_some_iff.1 hd
    have hil : i < us.length := by rw [hl]; exact (List.getElem?_eq_some_iff.1 hc).1
    have hu : us[i]? = some us[i] := List.getElem?_eq_getElem hil
    have hcell := hcs rfl i _ hu
    rw [Addr.add_lit] at hcell
    refine ⟨us[i], (World.cell?_of_block (w := W) (a := ⟨g, _, none⟩) (ht.block g (hrl g rfl).2 (fun hm => ?_))).trans hcell, ?_⟩
    · have := (hM g hm).2
      omega
    · rw [← hcd, Nat.zero_add]
      refine (h.ops i _ c hu hc).block (fun k hk he => ht.block k hk (fun hm => ?_)) ht.size
      obtain ⟨h1, _, _⟩ := h.ap _ (List.mem_of_getElem? hu) k he
      have := hM k hm
      omega
theorem rest_ops {w : World} {k : Nat} (hk : k = w.heap.size) : Ops (w.alloc (.cells #[.int .i64 10, .int .i64 0, .int .i64 0] 58)) (.slice (some ⟨k, 0, none⟩) 1 1) restC := by
  subst hk
  refine Or.inr ⟨w.heap.size, 0, 1, rfl, by simp, fun i o ho => ?_⟩
  match i, ho with
  | 0, ho => simp [restC] at ho; subst ho; simp [go_sem]
  | i + 1, ho => simp [restC] at ho
end Go.Proofs.YteoemcekkcnplaeGreatDoor
namespace Go.Proofs.YteoemcekkcnplaeGreatDoor
open Go.RowKit

set_option maxRecDepth 100000 in
set_option maxHeartbeats 8000000 in
theorem rpurge_any (p : PD) (vc vs vw : Value) (r : Nat) (w0 w : World) (hp : plchk p = 0) (hP0 : Pln w0 vc vs vw p) (hb0 : Below w0.heap.size w0 w) (hr : r < p.code.length) :
    Calls Tryz.prog 5 #[plV vc p.ticks vs vw, .int .i64 r] w fun e w' => ∃ ic, e = .returned (plV ic p.ticks vs vw) ∧ (∀ M W', KTouch M w' W' → (∀ m ∈ M, w0.heap.size ≤ m ∧ m < w.heap.size) → Pln W' ic vs vw (purgeP p (fun i => way p.wires i r))) ∧ Below w.heap.size w w' := by
  have hP := hP0.all hb0
  have hs0 := hb0.size
  obtain ⟨jj, hj, hy0, hy1, hy2⟩ := info_parts infoOps
  obtain ⟨ca, cc, rfl⟩ := hP.code.form
  obtain ⟨sa, sc, rfl⟩ := hP.spans.form
  obtain ⟨wa, wc', rfl⟩ := hP.wires.form
  obtain ⟨hc5, hc0, hfz, hwz, _, _, hcz, _⟩ := plchk_zero hp
  have hok := wschk_ok hwz
  have hr5 : r < 5 := by omega
  have HP : Hid (Pln w (.slice ca p.code.length cc) (.slice sa p.spans.length sc) (.slice wa p.wires.length wc') p) := hP
  have HP0 : Hid (Pln w0 (.slice ca p.code.length cc) (.slice sa p.spans.length sc) (.slice wa p.wires.length wc') p) := hP0
  have HB0 : Hid (Below w0.heap.size w0 w) := hb0
  have HW : Hid (∀ W, Below w.heap.size w W → Calls Tryz.prog 15 #[.slice wa p.wires.length wc'] W fun e w' => e = .returned (.agg (wayCells p.wires).toArray) ∧ Below W.heap.size W w') := fun W hb => ways_any p.wires _ W (hP.wires.all hb) hok.1 hok.2
  have HNE : Hid (∀ c ∈ p.code, c ≠ []) := fun c hc e => (chk_zero (codesE_zero hcz c hc)).1 (by rw [e]; rfl)
  unfold plV
  clear hP hP0 hb0 hok hwz hcz hfz
  have hA1 : Below w.heap.size w (w.alloc (.cells #[.slice ca p.code.length cc, .int .i64 p.ticks, .slice sa p.spans.length sc, .slice wa p.wires.length wc'] 26)) := (Below.refl _ _).alloc (Nat.le_refl _) _
  have hA2 : Below (w.heap.size + 2) ((w.alloc (.cells #[.slice ca p.code.length cc, .int .i64 p.ticks, .slice sa p.spans.length sc, .slice wa p.wires.length wc'] 26)).alloc (.cells #[.slice none 0 0, .int .i64 0, .slice none 0 0, .slice none 0 0] 26)) ((w.alloc (.cells #[.slice ca p.code.length cc, .int .i64 p.ticks, .slice sa p.spans.length sc, .slice wa p.wires.length wc'] 26)).alloc (.cells #[.slice none 0 0, .int .i64 0, .slice none 0 0, .slice none 0 0] 26)) := Below.refl _ _
  have hAB : Below w.heap.size w ((w.alloc (.cells #[.slice ca p.code.length cc, .int .i64 p.ticks, .slice sa p.spans.length sc, .slice wa p.wires.length wc'] 26)).alloc (.cells #[.slice none 0 0, .int .i64 0, .slice none 0 0, .slice none 0 0] 26)) := hA1.alloc (by simp) _
  generalize hWA : (w.alloc (.cells #[.slice ca p.code.length cc, .int .i64 p.ticks, .slice sa p.spans.length sc, .slice wa p.wires.length wc'] 26)).alloc (.cells #[.slice none 0 0, .int .i64 0, .slice none 0 0, .slice none 0 0] 26) = WA at hA2 hAB
  have hsA : WA.heap.size = w.heap.size + 2 := by rw [← hWA]; simp
  have d0 : WA.cell? ⟨w.heap.size, 0, none⟩ = some (.slice ca p.code.length cc) := by rw [← hWA]; simp [go_sem]
  have d1 : WA.cell? ⟨w.heap.size, 1, none⟩ = some (.int .i64 p.ticks) := by rw [← hWA]; simp [go_sem]
  have d2 : WA.cell? ⟨w.heap.size, 2, none⟩ = some (.slice sa p.spans.length sc) := by rw [← hWA]; simp [go_sem]
  have d3 : WA.cell? ⟨w.heap.size, 3, none⟩ = some (.slice wa p.wires.length wc') := by rw [← hWA]; simp [go_sem]
  have HZ : Hid (WA.cell? ⟨w.heap.size + 1, 0, none⟩ = some (.slice none 0 0) ∧ WA.cell? ⟨w.heap.size + 1, 1, none⟩ = some (.int .i64 0) ∧ WA.cell? ⟨w.heap.size + 1, 2, none⟩ = some (.slice none 0 0) ∧ WA.cell? ⟨w.heap.size + 1, 3, none⟩ = some (.slice none 0 0) ∧ WA.frozen? ⟨w.heap.size + 1, 0, none⟩ = false ∧ WA.frozen? ⟨w.heap.size + 1, 1, none⟩ = false ∧ WA.frozen? ⟨w.heap.size + 1, 2, none⟩ = false ∧ WA.frozen? ⟨w.heap.size + 1, 3, none⟩ = false) := by
    rw [← hWA]
    refine ⟨?_, ?_, ?_, ?_, ?_, ?_, ?_, ?_⟩ <;> simp [go_sem]
  have q1 := HW.out WA hAB
  clear hA1 hA2
  go_enter Tryz.func5, Tryz.ntmps5
  go_upto_region 1 with fail
  clear hWA
  go_wp2_with (first
    | (go_at_call 15; refine q1.mono ?_; rintro e w1 ⟨rfl, b1⟩; clear q1)
    | (refine wpList_store_mid rfl 55 _ _ rfl w1.heap.size 0 (wayCells p.wires).toArray rfl rfl (there_new w1 55) (by kernel_rfl) (way_one p.wires) ?_; rw [show (wayCells p.wires).toArray.toList = wayCells p.wires from rfl]; have cz := fun (i : Nat) (hi : i < 5) => ways_cell w1 p.wires 55 hi hr5; have Bz := below_cells (b1.alloc b1.size (.cells z25 55)) b1.size (wayCells p.wires) 0; have sz : w1.heap.size + 1 ≤ ((w1.alloc (.cells z25 55)).setCells w1.heap.size 0 (wayCells p.wires)).heap.size := (by have := (below_cells (Below.refl w1.heap.size (w1.alloc (.cells z25 55))) (Nat.le_refl _) (wayCells p.wires) 0).size; rw [World.size_alloc] at this; exact this); unfold z25 at cz Bz sz; generalize World.setCells _ w1.heap.size 0 (wayCells p.wires) = wz at cz Bz sz ⊢; have HC : Hid (∀ (i : Nat), i < 5 → wz.cell? ⟨w1.heap.size, i * 5 + r, none⟩ = some (.bool (way p.wires i r))) := cz; clear cz; have e0 := (Bz.cell (p := ⟨w.heap.size, 0, none⟩) (show w.heap.size < WA.heap.size by omega)).trans d0; have e1 := (Bz.cell (p := ⟨w.heap.size, 1, none⟩) (show w.heap.size < WA.heap.size by omega)).trans d1; have e2 := (Bz.cell (p := ⟨w.heap.size, 2, none⟩) (show w.heap.size < WA.heap.size by omega)).trans d2; have e3 := (Bz.cell (p := ⟨w.heap.size, 3, none⟩) (show w.heap.size < WA.heap.size by omega)).trans d3; clear d0 d1 d2 d3))
  have hsw : WA.heap.size ≤ w1.heap.size := b1.size
  have hsk : wz.heap.size < (wz.alloc (.cells #[.slice none 0 0, .int .i64 p.ticks, .slice sa p.spans.length sc, .slice wa p.wires.length wc'] 26)).heap.size := by simp
  have hB2 : Below wz.heap.size wz (wz.alloc (.cells #[.slice none 0 0, .int .i64 p.ticks, .slice sa p.spans.length sc, .slice wa p.wires.length wc'] 26)) := (Below.refl _ _).alloc (Nat.le_refl _) _
  have hst : QP w0.heap.size (wz.alloc (.cells #[.slice none 0 0, .int .i64 p.ticks, .slice sa p.spans.length sc, .slice wa p.wires.length wc'] 26)) (wz.alloc (.cells #[.slice none 0 0, .int .i64 p.ticks, .slice sa p.spans.length sc, .slice wa p.wires.length wc'] 26)) p (fun i => way p.wires i r) wz.heap.size (.slice sa p.spans.length sc) (.slice wa p.wires.length wc') (.slice none 0 0) [] :=
    ⟨KTouch.refl _ _, by simp, by omega, World.alloc_heap_new _ _, World.ownsRow_nil _ _ _ _, fun i u c h => (by simp at h), fun u hu => (by cases hu), Nat.zero_le _⟩
  have HBz : Hid (Below WA.heap.size WA wz) := Bz
  replace e0 := (hB2.cell (p := ⟨w.heap.size, 0, none⟩) (show w.heap.size < wz.heap.size by omega)).trans e0
  have HC2 : Hid (∀ (i : Nat), i < 5 → (wz.alloc (.cells #[.slice none 0 0, .int .i64 p.ticks, .slice sa p.spans.length sc, .slice wa p.wires.length wc'] 26)).cell? ⟨w1.heap.size, i * 5 + r, none⟩ = some (.bool (way p.wires i r))) := fun i hi => (hB2.cell (p := ⟨w1.heap.size, _, none⟩) (show w1.heap.size < wz.heap.size by omega)).trans (HC.out i hi)
  have HB3 : Hid (Below w.heap.size w (wz.alloc (.cells #[.slice none 0 0, .int .i64 p.ticks, .slice sa p.spans.length sc, .slice wa p.wires.length wc'] 26))) := (hAB.trans (Bz.mono hAB.size)).trans (hB2.mono (by omega))
  have HZ2 : Hid (∀ j, (wz.alloc (.cells #[.slice none 0 0, .int .i64 p.ticks, .slice sa p.spans.length sc, .slice wa p.wires.length wc'] 26)).cell? ⟨w.heap.size + 1, j, none⟩ = WA.cell? ⟨w.heap.size + 1, j, none⟩ ∧ (wz.alloc (.cells #[.slice none 0 0, .int .i64 p.ticks, .slice sa p.spans.length sc, .slice wa p.wires.length wc'] 26)).frozen? ⟨w.heap.size + 1, j, none⟩ = WA.frozen? ⟨w.heap.size + 1, j, none⟩) := fun j => by
    have hb := (Bz.trans (hB2.mono (by omega)))
    exact ⟨hb.cell (p := ⟨w.heap.size + 1, j, none⟩) (show w.heap.size + 1 < WA.heap.size by omega), hb.frozen (p := ⟨w.heap.size + 1, j, none⟩) (show w.heap.size + 1 < WA.heap.size by omega)⟩
  clear hB2 HC e1 e2 e3 Bz b1
  generalize wz.alloc (.cells #[.slice none 0 0, .int .i64 p.ticks, .slice sa p.spans.length sc, .slice wa p.wires.length wc'] 26) = w2 at *
  go_loopw [7] (fun i wr => ∃ us cv, i = .int .i64 (us.length : Nat) ∧ QP w0.heap.size w2 wr p (fun i => way p.wires i r) wz.heap.size (.slice sa p.spans.length sc) (.slice wa p.wires.length wc') cv us) (fun i _ => p.code.length - (intOf i).toNat)
  case atStart => exact ⟨[], _, rfl, hst⟩
  case round =>
    clear hst
    obtain ⟨us, cv, rfl, hq⟩ := hrel
    have hlen := hq.len
    obtain ⟨vo, vn, vk, rfl⟩ := own_form hq.own
    have htk := hq.tk
    have hsr := htk.size
    have f0 : wr.cell? ⟨w.heap.size, 0, none⟩ = some (.slice ca p.code.length cc) := (World.cell?_of_block (w := w2) (a := ⟨w.heap.size, 0, none⟩) (htk.block w.heap.size (by omega) (by simp; omega))).trans e0
    by_cases hkl : us.length < p.code.length
    · have hki : (us.length : Int) < (p.code.length : Int) := by omega
      obtain ⟨cb, co, ua, un, ug, c, rfl, hclt, hcy, hcd, rfl, hops⟩ := HP0.out.code.at hkl
      have hbw0 := HB0.out
      have hbw : Below w.heap.size w wr := HB3.out.trans (htk.below (fun m hm => by rw [List.mem_singleton] at hm; omega) (by omega))
      replace hbw0 := hbw0.trans (hbw.mono hs0)
      replace hcd := (hbw0.cell (p := ⟨cb, _, none⟩) hclt).trans hcd
      have hcw : wr.cell? ⟨w1.heap.size, us.length * 5 + r, none⟩ = some (.bool (way p.wires us.length r)) := (World.cell?_of_block (w := w2) (a := ⟨w1.heap.size, _, none⟩) (htk.block w1.heap.size (by omega) (by simp; omega))).trans (HC2.out us.length (by omega))
      obtain ⟨qc, _, _, _, qf⟩ := hq.cs
      have hown0 := hq.own
      have HQ : Hid (QP w0.heap.size w2 wr p (fun i => way p.wires i r) wz.heap.size (.slice sa p.spans.length sc) (.slice wa p.wires.length wc') (.slice vo vn vk) us) := hq
      have HCY : Hid (p.code[us.length]? = some c) := hcy
      have HOP : Hid (Ops wr (.slice ua c.length ug) c) := hops.all hbw0
      have HOL : Hid (∀ g, (Value.slice ua c.length ug).ownBlock = some g → g < w0.heap.size) := hops.lt (HNE.out c (List.mem_of_getElem? hcy))
      have hr5i : (r : Int) < 5 := by omega
      have hl5i : (us.length : Int) < 5 := by omega
      have hl5 : us.length < 5 := by omega
      clear hops hcy hq htk hbw hbw0
      cases hway : way p.wires us.length r with
      | true =>
        rw [hway] at hcw
        have HWY : Hid (way p.wires us.length r = true) := hway
        clear hway
        go_wp2_with (at_builtin; refine wpList_append_at _ rfl _ _ 22 rfl w2.heap.size 51 jj _ 1 24 Tryz.underlying22 hj hy0 hy1 hy2 rfl (by decide) _ _ _ rfl (hown0.alloc _) ⟨wr.heap.size, 0, none⟩ 1 1 [.slice ua c.length ug] rfl rfl ?c1A ?c2A ?c3A ?c4A ?c5A ?_)
        case c1A => exact one_new_at rfl _ _
        case c2A => intro u hu; simp at hu; subst hu; rfl
        case c3A => unfold maxLen; omega
        case c4A => omega
        case c5A => simp; omega
        intro v1 w8 own8 hg8 hnw8
        have hk8 : w8.heap[wz.heap.size]? = wr.heap[wz.heap.size]? := (hg8.block wz.heap.size (by simp; omega) (fun e => by have := (hown0.lt wz.heap.size e.symm).1; omega)).trans (((Below.refl wr.heap.size wr).alloc (Nat.le_refl _) _).block _ (by omega))
        have s8 : w8.cell? ⟨wz.heap.size, 0, none⟩ = some (.slice vo vn vk) := (World.cell?_of_block (w := wr) (a := ⟨wz.heap.size, 0, none⟩) hk8).trans qc
        have g8 : w8.frozen? ⟨wz.heap.size, 0, none⟩ = false := (World.frozen?_of_block (w := wr) (a := ⟨wz.heap.size, 0, none⟩) hk8).trans qf
        have HM : Hid (QP w0.heap.size w2 (w8.setCell ⟨wz.heap.size, 0, none⟩ v1) p (fun i => way p.wires i r) wz.heap.size (.slice sa p.spans.length sc) (.slice wa p.wires.length wc') v1 (us ++ [.slice ua c.length ug])) := HQ.out.more HCY.out (Below.refl _ _) (by simp only [HWY.out, if_true]; exact HOP.out) (fun g hg => ⟨Or.inl (HOL.out g hg), by have := HOL.out g hg; omega⟩) hg8 own8 (fun g hg => by have := hnw8 g hg; simpa using this)
        obtain ⟨gb, cap8, rfl⟩ := own_succ own8
        clear own8 hg8 hnw8 hown0 hk8
        go_wp2
        go_roundw
        case rel => exact ⟨us ++ [.slice ua c.length ug], _, by rw [List.length_append, List.length_singleton]; go_num, HM.out⟩
        case measure => simp [intOf]; omega
      | false =>
        rw [hway] at hcw
        have HWY : Hid (way p.wires us.length r = false) := hway
        have hnk : wr.heap.size ≠ wz.heap.size := by omega
        have qc2 : (wr.alloc (.cells #[.int .i64 10, .int .i64 0, .int .i64 0] 58)).cell? ⟨wz.heap.size, 0, none⟩ = some (.slice vo vn vk) := (((Below.refl wr.heap.size wr).alloc (Nat.le_refl _) _).cell (p := ⟨wz.heap.size, 0, none⟩) (show wz.heap.size < wr.heap.size by omega)).trans qc
        clear hway
        go_wp2_with (at_builtin; refine wpList_append_at _ rfl _ _ 22 rfl w2.heap.size 51 jj _ 1 24 Tryz.underlying22 hj hy0 hy1 hy2 rfl (by decide) _ _ _ rfl ((hown0.alloc _).alloc _) ⟨wr.heap.size + 1, 0, none⟩ 1 1 [.slice (some ⟨wr.heap.size, 0, none⟩) 1 1] rfl rfl ?c1A ?c2A ?c3A ?c4A ?c5A ?_)
        case c1A => exact one_new_at (by simp) _ _
        case c2A => intro u hu; simp at hu; subst hu; rfl
        case c3A => unfold maxLen; omega
        case c4A => omega
        case c5A => simp; omega
        intro v1 w8 own8 hg8 hnw8
        have hk8 : w8.heap[wz.heap.size]? = wr.heap[wz.heap.size]? := (hg8.block wz.heap.size (by simp; omega) (fun e => by have := (hown0.lt wz.heap.size e.symm).1; omega)).trans ((((Below.refl wr.heap.size wr).alloc (Nat.le_refl _) _).alloc (by simp) _).block _ (by omega))
        have s8 : w8.cell? ⟨wz.heap.size, 0, none⟩ = some (.slice vo vn vk) := (World.cell?_of_block (w := wr) (a := ⟨wz.heap.size, 0, none⟩) hk8).trans qc
        have g8 : w8.frozen? ⟨wz.heap.size, 0, none⟩ = false := (World.frozen?_of_block (w := wr) (a := ⟨wz.heap.size, 0, none⟩) hk8).trans qf
        have HM : Hid (QP w0.heap.size w2 (w8.setCell ⟨wz.heap.size, 0, none⟩ v1) p (fun i => way p.wires i r) wz.heap.size (.slice sa p.spans.length sc) (.slice wa p.wires.length wc') v1 (us ++ [.slice (some ⟨wr.heap.size, 0, none⟩) 1 1])) := HQ.out.more HCY.out ((Below.refl _ _).alloc (Nat.le_refl _) _) (by simp only [HWY.out, Bool.false_eq_true, if_false]; exact rest_ops rfl) (fun g hg => by simp only [Value.ownBlock, Option.some.injEq] at hg; subst hg; exact ⟨Or.inr (Nat.le_refl _), by simp⟩) hg8 own8 (fun g hg => by have := hnw8 g hg; simpa using this)
        obtain ⟨gb, cap8, rfl⟩ := own_succ own8
        clear own8 hg8 hnw8 hown0 hk8
        go_wp2
        go_roundw
        case rel => exact ⟨us ++ [.slice (some ⟨wr.heap.size, 0, none⟩) 1 1], _, by rw [List.length_append, List.length_singleton]; go_num, HM.out⟩
        case measure => simp [intOf]; omega
    · have hul : us.length = p.code.length := by omega
      have hki : decide ((us.length : Int) < (p.code.length : Int)) = false := decide_eq_false (by omega)
      have hki' : decide (us.length < p.code.length) = false := decide_eq_false (by omega)
      obtain ⟨q0, q1, q2, q3, _⟩ := hq.cs
      have hbk : ∀ j, wr.cell? ⟨w.heap.size + 1, j, none⟩ = w2.cell? ⟨w.heap.size + 1, j, none⟩ ∧ wr.frozen? ⟨w.heap.size + 1, j, none⟩ = w2.frozen? ⟨w.heap.size + 1, j, none⟩ := fun j => ⟨World.cell?_of_block (w := w2) (a := ⟨w.heap.size + 1, j, none⟩) (htk.block (w.heap.size + 1) (by omega) (by simp; omega)), World.frozen?_of_block (w := w2) (a := ⟨w.heap.size + 1, j, none⟩) (htk.block (w.heap.size + 1) (by omega) (by simp; omega))⟩
      obtain ⟨z0, z1, z2, z3, y0, y1, y2, y3⟩ := HZ.out
      replace z0 := ((hbk 0).1.trans (HZ2.out 0).1).trans z0
      replace z1 := ((hbk 1).1.trans (HZ2.out 1).1).trans z1
      replace z2 := ((hbk 2).1.trans (HZ2.out 2).1).trans z2
      replace z3 := ((hbk 3).1.trans (HZ2.out 3).1).trans z3
      replace y0 := ((hbk 0).2.trans (HZ2.out 0).2).trans y0
      replace y1 := ((hbk 1).2.trans (HZ2.out 1).2).trans y1
      replace y2 := ((hbk 2).2.trans (HZ2.out 2).2).trans y2
      replace y3 := ((hbk 3).2.trans (HZ2.out 3).2).trans y3
      have hbw : Below w.heap.size w wr := HB3.out.trans (htk.below (fun m hm => by rw [List.mem_singleton] at hm; omega) (by omega))
      have HQ : Hid (QP w0.heap.size w2 wr p (fun i => way p.wires i r) wz.heap.size (.slice sa p.spans.length sc) (.slice wa p.wires.length wc') (.slice vo vn vk) us) := hq
      have hne : wz.heap.size ≠ w.heap.size + 1 := by omega
      clear hq htk hbk
      go_wp2
      refine bodyPost_ret (v := plV (.slice vo vn vk) p.ticks (.slice sa p.spans.length sc) (.slice wa p.wires.length wc')) ?_ rfl ⟨.slice vo vn vk, rfl, ?_, ?_⟩
      · simp [results, Tryz.results5, go_sem, plV, z0, z1, z2, z3]
      · intro M W' htM hM
        have htk : KTouch [w.heap.size + 1] wr ((((wr.setCell ⟨w.heap.size + 1, 0, none⟩ (.slice vo vn vk)).setCell ⟨w.heap.size + 1, 1, none⟩ (.int .i64 p.ticks)).setCell ⟨w.heap.size + 1, 2, none⟩ (.slice sa p.spans.length sc)).setCell ⟨w.heap.size + 1, 3, none⟩ (.slice wa p.wires.length wc')) :=
          (((KTouch.set wr (by simp) 0 _).trans (KTouch.set _ (by simp) 1 _)).trans (KTouch.set _ (by simp) 2 _)).trans (KTouch.set _ (by simp) 3 _)
        have htt : KTouch ((w.heap.size + 1) :: M) wr W' := (htk.mono (fun m hm => by rw [List.mem_singleton] at hm; simp [hm])).trans (htM.mono (fun m hm => by simp [hm]))
        have hMM : ∀ m ∈ (w.heap.size + 1) :: M, w0.heap.size ≤ m ∧ m < w2.heap.size := fun m hm => by
          rcases List.mem_cons.1 hm with h | h
          · omega
          · have := hM m h
            omega
        have hb4 : Below w0.heap.size w0 W' := (HB0.out.trans (hbw.mono hs0)).trans (htt.below (fun m hm => (hMM m hm).1) (by omega))
        exact ⟨HQ.out.cds hul htt hMM, HP0.out.spans.all hb4, HP0.out.wires.all hb4⟩
      · exact (((hbw.setCell (p := ⟨w.heap.size + 1, 0, none⟩) (Nat.le_succ _) _).setCell (p := ⟨w.heap.size + 1, 1, none⟩) (Nat.le_succ _) _).setCell (p := ⟨w.heap.size + 1, 2, none⟩) (Nat.le_succ _) _).setCell (p := ⟨w.heap.size + 1, 3, none⟩) (Nat.le_succ _) _
end Go.Proofs.YteoemcekkcnplaeGreatDoor
namespace Go.Proofs.YteoemcekkcnplaeGreatDoor
open Go.RowKit

/-- The first of a room's states. -/
def stsK (p : PD) (t r : Nat) : List St := (List.range t).map fun i => (kT p i).rooms.getD r stNew
theorem stsK_len (p : PD) (t r : Nat) : (stsK p t r).length = t := by simp [stsK]
theorem stsK_succ (p : PD) (t r : Nat) : stsK p (t + 1) r = stsK p t r ++ [(kT p t).rooms.getD r stNew] := by
  unfold stsK
  rw [List.range_succ, List.map_append]
  rfl
theorem stsK_all (p : PD) (n r : Nat) : stsK p (n + 1) r = statesK p n r := rfl
/-- A row of the caller's own has grown. -/
theorem KTouch.rowG {w w2 wa : World} {row : Option Nat} (hb : Below w.heap.size w w2) (hg : w2.grownBy wa row) : KTouch row.toList w wa :=
  ⟨hg.os.trans hb.os, hg.tape.trans hb.tape, hg.output.trans hb.output, Nat.le_trans hb.size hg.size, fun k hk hm => by
    have := hb.size
    exact (hg.block k (by omega) (fun e => hm (by rw [← e]; simp))).trans (hb.block k hk)⟩
/-- A kernel, and a row of states beside it. -/
structure SRn {G : World → Prop} (C : KerC G) (w0 wr : World) (p : PD) (vc vs vw : Value) (kb B r t : Nat) (v : Value) (F : List Nat) : Prop where
  K : C.K w0 wr p vc vs vw (kT p t) kb F
  own : wr.ownsRow B 39 8 v t (stCells (stsK p t r))
  ap : ∀ g, v.ownBlock = some g → g ∉ F
  B1 : w0.heap.size ≤ B
  B2 : B ≤ wr.heap.size
/-- One more state, and a tick. -/
theorem SRn.more {G : World → Prop} {C : KerC G} {w0 wr w3 w8 : World} {p : PD} {vc vs vw : Value} {kb B r t : Nat} {v v' : Value} {F : List Nat} {s : St} (h : SRn C w0 wr p vc vs vw kb B r t v F) (hs : (kT p t).rooms.getD r stNew = s) (b3 : Below wr.heap.size wr w3) (hg : w3.grownBy w8 v.ownBlock)
    (own8 : w8.ownsRow B 39 8 v' (t + 1) (stCells (stsK p t r) ++ [.int .i64 s.p, .int .i64 (s.c 0), .int .i64 (s.c 1), .int .i64 (s.c 2), .int .i64 (s.c 3), .int .i64 (s.c 4), .int .i64 (s.c 5), .bool s.f])) (hnew : ∀ g, v'.ownBlock = some g → v.ownBlock = some g ∨ w3.heap.size ≤ g) (hG : G w0) (hp : plchk p = 0) (ht : t < 1000000) :
    Calls Tryz.prog 40 #[.pointer (some ⟨kb, 0, none⟩)] w8 fun e w' => ∃ a b c d, e = .returned (.agg #[.int .i64 a, .int .i64 b, .int .i64 c, .int .i64 d]) ∧ ∃ F', SRn C w0 w' p vc vs vw kb B r (t + 1) v' F' := by
  have tk := KTouch.rowG b3 hg
  have hK8 := C.frame h.K tk (fun m hm => by
    have hm' : v.ownBlock = some m := by simpa using hm
    exact ⟨h.ap m hm', Nat.le_trans h.B1 (h.own.lt m hm').1⟩)
  refine (C.tick hG hK8 hp (kT_ok hp t) (by rw [kT_time]; omega)).mono ?_
  rintro e w' ⟨rfl, F', hK', tk', hF'⟩
  have hs8 := tk.size
  have hs3 := b3.size
  have hg8 := hg.size
  have hap8 : ∀ g, v'.ownBlock = some g → g ∉ F := fun g hg' hm => by
    rcases hnew g hg' with h1 | h1
    · exact h.ap g h1 hm
    · have := (C.ge h.K g hm).2
      omega
  refine ⟨_, _, _, _, rfl, F', hK', ?_, fun g hg' hm => ?_, h.B1, Nat.le_trans h.B2 (Nat.le_trans hs8 tk'.size)⟩
  · rw [stsK_succ, stCells_snoc, hs]
    exact own_block own8 (fun g hg' => tk'.block g (own8.lt g hg').2 (hap8 g hg'))
  · rcases hF' g hm with h1 | h1
    · exact hap8 g hg' h1
    · have := (own8.lt g hg').2
      omega
set_option maxRecDepth 100000 in
set_option maxHeartbeats 8000000 in
theorem srun_wrong {G : World → Prop} (C : KerC G) (p : PD) (vc vs vw : Value) (n r : Int) (W : World) (hG : G W) (hP : Pln W vc vs vw p) (hp : plchk p ≠ 0) :
    Calls Tryz.prog 26 #[plV vc p.ticks vs vw, .int .i64 n, .int .i64 r] W fun e w' => e = .returned (.tuple #[.slice none 0 0, wErr (plchk p)]) ∧ Below W.heap.size W w' := by
  obtain ⟨ca, cc, rfl⟩ := hP.code.form
  obtain ⟨sa, sc, rfl⟩ := hP.spans.form
  obtain ⟨wa, wc', rfl⟩ := hP.wires.form
  have hx0 := Bx.first W (.slice ca p.code.length cc) p.ticks (.slice sa p.spans.length sc) (.slice wa p.wires.length wc')
  have q1 := C.no p _ _ _ _ (C.all _ _ hG hx0.below) (hP.all hx0.below) hp
  rw [wErr_not hp] at q1 ⊢
  unfold plV at q1 ⊢
  have k0 := hx0.c0
  have k1 := hx0.c1
  have k2 := hx0.c2
  have k3 := hx0.c3
  clear hP hG
  generalize plchk p = z at q1 hp ⊢
  go_enter Tryz.func26, Tryz.ntmps26
  go_wp2_with (go_at_call 38; refine q1.mono ?_; rintro e w1 ⟨x, rfl, b1⟩)
  go_ret2
  exact ⟨rfl, (hx0.step b1).below⟩
set_option maxRecDepth 100000 in
set_option maxHeartbeats 8000000 in
theorem srun_n {G : World → Prop} (C : KerC G) (p : PD) (vc vs vw : Value) (n r : Int) (W : World) (hG : G W) (hP : Pln W vc vs vw p) (hp : plchk p = 0) (hn : n < 0 ∨ 2000 < n) :
    Calls Tryz.prog 26 #[plV vc p.ticks vs vw, .int .i64 n, .int .i64 r] W fun e w' => e = .returned (.tuple #[.slice none 0 0, wErr 1]) ∧ Below W.heap.size W w' := by
  obtain ⟨ca, cc, rfl⟩ := hP.code.form
  obtain ⟨sa, sc, rfl⟩ := hP.spans.form
  obtain ⟨wa, wc', rfl⟩ := hP.wires.form
  have hx0 := Bx.first W (.slice ca p.code.length cc) p.ticks (.slice sa p.spans.length sc) (.slice wa p.wires.length wc')
  have q1 : Calls Tryz.prog 38 #[.agg #[.slice ca p.code.length cc, .int .i64 p.ticks, .slice sa p.spans.length sc, .slice wa p.wires.length wc']] (W.alloc (.cells #[.slice ca p.code.length cc, .int .i64 p.ticks, .slice sa p.spans.length sc, .slice wa p.wires.length wc'] 26)) fun e w' => ∃ kb, e = .returned (.tuple #[.pointer (some ⟨kb, 0, none⟩), .nilIface]) ∧ Below W.heap.size W w' := by
    refine (C.new p _ _ _ _ (C.all _ _ hG hx0.below) (hP.all hx0.below) hp).mono ?_
    rintro e w' ⟨kb, F, rfl, hK⟩
    exact ⟨kb, rfl, hx0.below.trans ((C.since hK).mono (by simp))⟩
  unfold plV
  have k0 := hx0.c0
  have k1 := hx0.c1
  have k2 := hx0.c2
  have k3 := hx0.c3
  clear hP hG hp
  have hcase : decide (n < 0) = true ∨ (decide (n < 0) = false ∧ decide (2000 < n) = true) := by
    by_cases h : n < 0
    · exact Or.inl (decide_eq_true h)
    · exact Or.inr ⟨decide_eq_false h, decide_eq_true (hn.resolve_left h)⟩
  clear hn
  rcases hcase with h1 | ⟨h1, h2⟩
  · go_enter Tryz.func26, Tryz.ntmps26
    go_wp2_with (go_at_call 38; refine q1.mono ?_; rintro e w1 ⟨kb, rfl, b1⟩)
    go_ret2
    exact ⟨rfl, b1⟩
  · go_enter Tryz.func26, Tryz.ntmps26
    go_wp2_with (go_at_call 38; refine q1.mono ?_; rintro e w1 ⟨kb, rfl, b1⟩)
    go_ret2
    exact ⟨rfl, b1⟩
set_option maxRecDepth 100000 in
set_option maxHeartbeats 8000000 in
theorem srun_room {G : World → Prop} (C : KerC G) (p : PD) (vc vs vw : Value) (n : Nat) (r : Int) (W : World) (hG : G W) (hP : Pln W vc vs vw p) (hp : plchk p = 0) (hn : n ≤ 2000) (hr : r < 0 ∨ (p.code.length : Int) ≤ r) :
    Calls Tryz.prog 26 #[plV vc p.ticks vs vw, .int .i64 n, .int .i64 r] W fun e w' => e = .returned (.tuple #[.slice none 0 0, wErr 1]) ∧ Below W.heap.size W w' := by
  obtain ⟨ca, cc, rfl⟩ := hP.code.form
  obtain ⟨sa, sc, rfl⟩ := hP.spans.form
  obtain ⟨wa, wc', rfl⟩ := hP.wires.form
  have hx0 := Bx.first W (.slice ca p.code.length cc) p.ticks (.slice sa p.spans.length sc) (.slice wa p.wires.length wc')
  have q1 : Calls Tryz.prog 38 #[.agg #[.slice ca p.code.length cc, .int .i64 p.ticks, .slice sa p.spans.length sc, .slice wa p.wires.length wc']] (W.alloc (.cells #[.slice ca p.code.length cc, .int .i64 p.ticks, .slice sa p.spans.length sc, .slice wa p.wires.length wc'] 26)) fun e w' => ∃ kb, e = .returned (.tuple #[.pointer (some ⟨kb, 0, none⟩), .nilIface]) ∧ Below W.heap.size W w' ∧ Calls Tryz.prog 39 #[.pointer (some ⟨kb, 0, none⟩), .int .i64 r] w' fun e w2 => e = .returned (.tuple #[stA stNew, wErr 1]) ∧ Below w'.heap.size w' w2 := by
    refine (C.new p _ _ _ _ (C.all _ _ hG hx0.below) (hP.all hx0.below) hp).mono ?_
    rintro e w' ⟨kb, F, rfl, hK⟩
    have hno : noRoom (newK p) r = true := by
      have hl : (newK p).rooms.length = p.code.length := by simp [newK]
      unfold noRoom
      rw [hl, Bool.or_eq_true]
      rcases hr with h | h
      · exact Or.inl (decide_eq_true h)
      · exact Or.inr (decide_eq_true h)
    have hS := C.state r hK (kT_ok hp 0) hp
    have hrk : roomK (newK p) r = stNew := by
      unfold roomK
      rw [if_pos hno]
    rw [hrk, hno] at hS
    exact ⟨kb, rfl, hx0.below.trans ((C.since hK).mono (by simp)), hS⟩
  unfold plV
  have k0 := hx0.c0
  have k1 := hx0.c1
  have k2 := hx0.c2
  have k3 := hx0.c3
  clear hP hG hp hr
  have hn0 : decide ((n : Int) < 0) = false := decide_eq_false (by omega)
  have hn1 : decide (2000 < (n : Int)) = false := decide_eq_false (by omega)
  have hn3 : (0 : Int) < (n : Int) + 1 := by omega
  unfold stA stNew wErr at q1
  go_enter Tryz.func26, Tryz.ntmps26
  go_wp2_with (go_at_call 38; refine q1.mono ?_; rintro e w1 ⟨kb, rfl, b1, q2⟩)
  refine wp_loop_rounds 1 ?_
  rw [rounds_succ]
  go_wp2_with (go_at_call 39; refine q2.mono ?_; rintro e w2 ⟨rfl, b2⟩)
  go_ret2
  refine ⟨rfl, ?_⟩
  have hb := b1.trans (b2.mono b1.size)
  have hs := hb.size
  repeat' first | exact hb | refine Below.drew ?_ | refine Below.alloc ?_ (by first | omega | (simp; omega)) _ | refine Below.setCell ?_ (by first | omega | (simp; omega)) _
set_option maxRecDepth 100000 in
set_option maxHeartbeats 8000000 in
theorem srun_ok {G : World → Prop} (C : KerC G) (p : PD) (vc vs vw : Value) (n r : Nat) (W : World) (hG : G W) (hP : Pln W vc vs vw p) (hp : plchk p = 0) (hn : n ≤ 2000) (hr : r < p.code.length) :
    Calls Tryz.prog 26 #[plV vc p.ticks vs vw, .int .i64 n, .int .i64 r] W fun e w' => ∃ v, e = .returned (.tuple #[v, .nilIface]) ∧ StL w' v (statesK p n r) ∧ Below W.heap.size W w' := by
  obtain ⟨jj, hj, hy0, hy1, hy2⟩ := info_parts infoSt
  obtain ⟨ca, cc, rfl⟩ := hP.code.form
  obtain ⟨sa, sc, rfl⟩ := hP.spans.form
  obtain ⟨wa, wc', rfl⟩ := hP.wires.form
  have hx0 := Bx.first W (.slice ca p.code.length cc) p.ticks (.slice sa p.spans.length sc) (.slice wa p.wires.length wc')
  have HG : Hid (G (W.alloc (.cells #[.slice ca p.code.length cc, .int .i64 p.ticks, .slice sa p.spans.length sc, .slice wa p.wires.length wc'] 26))) := C.all _ _ hG hx0.below
  have hA := hx0.below
  have HN : Hid (Calls Tryz.prog 38 #[.agg #[.slice ca p.code.length cc, .int .i64 p.ticks, .slice sa p.spans.length sc, .slice wa p.wires.length wc']] (W.alloc (.cells #[.slice ca p.code.length cc, .int .i64 p.ticks, .slice sa p.spans.length sc, .slice wa p.wires.length wc'] 26)) fun e w' => ∃ kb F, e = .returned (.tuple #[.pointer (some ⟨kb, 0, none⟩), .nilIface]) ∧ C.K (W.alloc (.cells #[.slice ca p.code.length cc, .int .i64 p.ticks, .slice sa p.spans.length sc, .slice wa p.wires.length wc'] 26)) w' p (.slice ca p.code.length cc) (.slice sa p.spans.length sc) (.slice wa p.wires.length wc') (newK p) kb F) := C.new p _ _ _ _ HG.out (hP.all hx0.below) hp
  unfold plV
  have k0 := hx0.c0
  have k1 := hx0.c1
  have k2 := hx0.c2
  have k3 := hx0.c3
  have HGs : Hid (∀ t, noRoom (kT p t) r = false ∧ roomK (kT p t) r = (kT p t).rooms.getD r stNew) := fun t => by
    have hl : (kT p t).rooms.length = p.code.length := (kT_ok hp t).rl
    have hno : noRoom (kT p t) r = false := by
      unfold noRoom
      rw [hl, Bool.or_eq_false_iff]
      exact ⟨decide_eq_false (by omega), decide_eq_false (by omega)⟩
    refine ⟨hno, ?_⟩
    unfold roomK
    rw [if_neg (by rw [hno]; decide), Int.toNat_natCast]
  clear hP hG
  have hn0 : decide ((n : Int) < 0) = false := decide_eq_false (by omega)
  have hn1 : decide (2000 < (n : Int)) = false := decide_eq_false (by omega)
  go_enter Tryz.func26, Tryz.ntmps26
  go_wp2_with (go_at_call 38; refine HN.out.mono ?_; rintro e w1 ⟨kb, F, rfl, hK⟩)
  clear HN
  generalize W.alloc (.cells #[.slice ca p.code.length cc, .int .i64 p.ticks, .slice sa p.spans.length sc, .slice wa p.wires.length wc'] 26) = W0 at *
  go_loopw [10, 30] (fun v i wr => ∃ (t : Nat) (F : List Nat), t ≤ n + 1 ∧ i = .int .i64 t ∧ SRn C W0 wr p (.slice ca p.code.length cc) (.slice sa p.spans.length sc) (.slice wa p.wires.length wc') kb w1.heap.size r t v F) (fun _ i _ => n + 1 - (intOf i).toNat)
  case atStart => exact ⟨0, F, Nat.zero_le _, rfl, hK, World.ownsRow_nil _ _ _ _, fun g hg => (by cases hg), (C.since hK).size, Nat.le_refl _⟩
  case round =>
    clear hK
    obtain ⟨t, F', htn, rfl, hst⟩ := hrel
    obtain ⟨vo, vn, vk, rfl⟩ := own_form hst.own
    have hbw := C.since hst.K
    by_cases htl : t < n + 1
    · have hti : (t : Int) < (n : Int) + 1 := by omega
      obtain ⟨hno, hrk⟩ := HGs.out t
      obtain ⟨s, hs⟩ : ∃ s, (kT p t).rooms.getD r stNew = s := ⟨_, rfl⟩
      have HS : Hid ((kT p t).rooms.getD r stNew = s) := hs
      have hS := C.state r hst.K (kT_ok hp t) hp
      rw [hno, hrk, hs] at hS
      have HT : Hid (Calls Tryz.prog 39 #[.pointer (some ⟨kb, 0, none⟩), .int .i64 r] wr fun e w2 => e = .returned (.tuple #[.agg #[.int .i64 s.p, .int .i64 (s.c 0), .int .i64 (s.c 1), .int .i64 (s.c 2), .int .i64 (s.c 3), .int .i64 (s.c 4), .int .i64 (s.c 5), .bool s.f], .nilIface]) ∧ Below wr.heap.size wr w2) := hS
      have HR : Hid (SRn C W0 wr p (.slice ca p.code.length cc) (.slice sa p.spans.length sc) (.slice wa p.wires.length wc') kb w1.heap.size r t (.slice vo vn vk) F') := hst
      have hown0 := hst.own
      have hB2 := hst.B2
      clear hS hs hst hno hrk
      go_upto_region 9 with fail
      go_cut [11, 12, 30] from 30 to 47 (fun s11 s12 s30 wx => s12 = .nilIface ∧ s30 = .int .i64 t ∧ ∃ g, s11 = .pointer (some ⟨g, 0, none⟩) ∧ StC wx g 0 s ∧ Below wr.heap.size wr wx)
      case first =>
        go_wp2_with (go_at_call 39; refine HT.out.mono ?_; rintro e w2 ⟨rfl, b2⟩)
        go_meet
        case rel =>
          refine ⟨rfl, rfl, w2.heap.size, rfl, ?_, ?_⟩
          · constructor <;> simp [go_sem]
          · have hs2 := b2.size
            repeat' first | exact b2 | refine Below.drew ?_ | refine Below.alloc ?_ (by first | omega | (simp; omega)) _ | refine Below.setCell ?_ (by first | omega | (simp; omega)) _
      case rest =>
        obtain ⟨rfl, rfl, g, rfl, hsc, hbc⟩ := hcut
        obtain ⟨q0, q1, q2, q3, q4, q5, q6, q7⟩ := hsc
        have own3 := own_block hown0 (fun k hk => hbc.block k (hown0.lt k hk).2)
        have hsz := hbc.size
        clear HT hown0
        go_wp2_with (at_builtin; refine wpList_append_at _ rfl _ _ 35 rfl w1.heap.size 39 jj _ 8 64 Tryz.underlying35 hj hy0 hy1 hy2 rfl (by decide) _ _ _ rfl (own3.alloc _) ⟨wc.heap.size, 0, none⟩ 1 1 [.int .i64 s.p, .int .i64 (s.c 0), .int .i64 (s.c 1), .int .i64 (s.c 2), .int .i64 (s.c 3), .int .i64 (s.c 4), .int .i64 (s.c 5), .bool s.f] rfl rfl ?c1A ?c2A ?c3A ?c4A ?c5A ?_)
        try (case c1A => exact st_new rfl s _)
        case c2A => first | exact st_one s | exact ⟨rfl, rfl, rfl, rfl, rfl, rfl, rfl, rfl⟩
        case c3A => unfold maxLen; omega
        case c4A => omega
        case c5A => first | omega | (simp; omega)
        intro v1 w8 own8 hg8 hnw8
        have hb3 : Below wr.heap.size wr (wc.alloc (.cells #[.int .i64 s.p, .int .i64 (s.c 0), .int .i64 (s.c 1), .int .i64 (s.c 2), .int .i64 (s.c 3), .int .i64 (s.c 4), .int .i64 (s.c 5), .bool s.f] 39)) := hbc.alloc hbc.size _
        have HQ : Hid (Calls Tryz.prog 40 #[.pointer (some ⟨kb, 0, none⟩)] w8 fun e w' => ∃ a b c d, e = .returned (.agg #[.int .i64 a, .int .i64 b, .int .i64 c, .int .i64 d]) ∧ ∃ F', SRn C W0 w' p (.slice ca p.code.length cc) (.slice sa p.spans.length sc) (.slice wa p.wires.length wc') kb w1.heap.size r (t + 1) v1 F') := HR.out.more HS.out hb3 hg8 own8 (fun g hg => by have := hnw8 g hg; simpa using this) HG.out hp (by omega)
        obtain ⟨g8, cap8, rfl⟩ := own_succ own8
        clear own8 hg8 hnw8 own3 q0 q1 q2 q3 q4 q5 q6 q7 hb3
        go_wp2_with (go_at_call 40; refine HQ.out.mono ?_; rintro e w9 ⟨ea, eb, ec, ed, rfl, F9, hst9⟩)
        go_roundw
        case rel => exact ⟨t + 1, F9, by omega, by go_num, hst9⟩
        case measure => simp [intOf]; omega
    · obtain rfl : t = n + 1 := by omega
      have hti : decide (((n + 1 : Nat) : Int) < (n : Int) + 1) = false := decide_eq_false (by omega)
      have HS : Hid (StL wr (.slice vo vn vk) (statesK p n r)) := StL.own (by rw [statesK_len]; exact hst.own)
      have HB' : Hid (Below W.heap.size W wr) := hA.trans (hbw.mono hA.size)
      clear hst
      go_wp2
      go_ret2
      exact ⟨_, rfl, HS.out, HB'.out⟩
/-- Run does what the laws of sight ask of it. -/
theorem sgt_run {G : World → Prop} (C : KerC G) : SgtRun G := fun p vc vs vw n r W hG hP => by
  by_cases hp : plchk p = 0
  · by_cases hn : n < 0 ∨ 2000 < n
    · have he : runE p n r = 1 := by
        unfold runE
        rw [if_pos hp, if_pos (by omega)]
      rw [he]
      refine (srun_n C p vc vs vw n r W hG hP hp hn).mono ?_
      rintro e w' ⟨rfl, hb⟩
      exact ⟨_, rfl, Or.inl ⟨rfl, _, _, rfl⟩, hb⟩
    · obtain ⟨n, rfl⟩ : ∃ m : Nat, n = m := ⟨n.toNat, by omega⟩
      by_cases hr : r < 0 ∨ (p.code.length : Int) ≤ r
      · have he : runE p n r = 1 := by
          unfold runE
          rw [if_pos hp, if_pos (by omega)]
        rw [he]
        refine (srun_room C p vc vs vw n r W hG hP hp (by omega) hr).mono ?_
        rintro e w' ⟨rfl, hb⟩
        exact ⟨_, rfl, Or.inl ⟨rfl, _, _, rfl⟩, hb⟩
      · obtain ⟨r, rfl⟩ : ∃ m : Nat, r = m := ⟨r.toNat, by omega⟩
        have he : runE p n r = 0 := by
          unfold runE
          rw [if_pos hp, if_neg (by omega)]
        rw [he, if_pos rfl, Int.toNat_natCast, Int.toNat_natCast]
        exact srun_ok C p vc vs vw n r W hG hP hp (by omega) (by omega)
  · have he : runE p n r = plchk p := by
      unfold runE
      rw [if_neg hp]
    rw [he, if_neg hp]
    refine (srun_wrong C p vc vs vw n r W hG hP hp).mono ?_
    rintro e w' ⟨rfl, hb⟩
    exact ⟨_, rfl, Or.inl ⟨rfl, _, _, rfl⟩, hb⟩
end Go.Proofs.YteoemcekkcnplaeGreatDoor
namespace Go.Proofs.YteoemcekkcnplaeGreatDoor
open Go.RowKit

/-- Do two states look the same? -/
def sameS (s t : St) : Bool := decide (s.p = t.p) && (decide (s.c 0 = t.c 0) && (decide (s.c 1 = t.c 1) && (decide (s.c 2 = t.c 2) && (decide (s.c 3 = t.c 3) && (decide (s.c 4 = t.c 4) && (decide (s.c 5 = t.c 5) && (s.f == t.f)))))))
theorem sameS_iff {s t : St} : sameS s t = true ↔ StSame s t := by
  unfold sameS
  simp only [Bool.and_eq_true, decide_eq_true_eq, beq_iff_eq]
  constructor
  · rintro ⟨hp, h0, h1, h2, h3, h4, h5, hf⟩
    refine ⟨hp, fun i hi => ?_, hf⟩
    match i, hi with
    | 0, _ => exact h0
    | 1, _ => exact h1
    | 2, _ => exact h2
    | 3, _ => exact h3
    | 4, _ => exact h4
    | 5, _ => exact h5
  · intro h
    exact ⟨h.p, h.c 0 (by omega), h.c 1 (by omega), h.c 2 (by omega), h.c 3 (by omega), h.c 4 (by omega), h.c 5 (by omega), h.f⟩
theorem eqIn_six2 (a b c d e f a' b' c' d' e' f' : Int) (w : World) : (Op.equalIn 9999 37 (.agg #[.int .i64 a, .int .i64 b, .int .i64 c, .int .i64 d, .int .i64 e, .int .i64 f]) (.agg #[.int .i64 a', .int .i64 b', .int .i64 c', .int .i64 d', .int .i64 e', .int .i64 f'])).run Tryz.prog w = .ok (decide (a = a') && (decide (b = b') && (decide (c = c') && (decide (d = d') && (decide (e = e') && decide (f = f')))))) w := by
  obtain ⟨n, hn⟩ : ∃ n, n + 1 = 9999 := ⟨9998, rfl⟩
  obtain ⟨m, hm⟩ : ∃ m, n = m + 1 := ⟨9997, by omega⟩
  rw [← hn]
  clear hn
  have hq : ∀ (x y : Int) (w : World), (Op.equalIn n 3 (.int .i64 x) (.int .i64 y)).run Tryz.prog w = .ok (decide (x = y)) w := fun x y w => by
    rw [hm, run_equalIn_int w m 3 .i64 .i64 x y Tryz.underlying3]
    by_cases h : x = y <;> simp [h]
  clear hm
  simp only [Op.equalIn, Sem.run_bind, run_underlying Tryz.underlying37, Result.andThen_ok]
  by_cases h0 : a = a'
  · by_cases h1 : b = b'
    · by_cases h2 : c = c'
      · by_cases h3 : d = d'
        · by_cases h4 : e = e'
          · by_cases h5 : f = f'
            · simp [List.range', go_sem, hq, h0, h1, h2, h3, h4, h5]
            · simp [List.range', go_sem, hq, h0, h1, h2, h3, h4, h5]
          · simp [List.range', go_sem, hq, h0, h1, h2, h3, h4]
        · simp [List.range', go_sem, hq, h0, h1, h2, h3]
      · simp [List.range', go_sem, hq, h0, h1, h2]
    · simp [List.range', go_sem, hq, h0, h1]
  · simp [List.range', go_sem, hq, h0]
theorem eqIn_st2 (s t : St) (w : World) : (Op.equalIn 10000 39 (.agg #[.int .i64 s.p, .int .i64 (s.c 0), .int .i64 (s.c 1), .int .i64 (s.c 2), .int .i64 (s.c 3), .int .i64 (s.c 4), .int .i64 (s.c 5), .bool s.f]) (.agg #[.int .i64 t.p, .int .i64 (t.c 0), .int .i64 (t.c 1), .int .i64 (t.c 2), .int .i64 (t.c 3), .int .i64 (t.c 4), .int .i64 (t.c 5), .bool t.f])).run Tryz.prog w = .ok (sameS s t) w := by
  rw [run_equalIn_agg _ _ _ _ _ fieldsSt stoodSt, fieldsStIs]
  unfold sameS
  by_cases h0 : s.p = t.p
  · cases hsix : (decide (s.c 0 = t.c 0) && (decide (s.c 1 = t.c 1) && (decide (s.c 2 = t.c 2) && (decide (s.c 3 = t.c 3) && (decide (s.c 4 = t.c 4) && decide (s.c 5 = t.c 5)))))) with
    | true =>
      have e := hsix
      simp only [Bool.and_eq_true, decide_eq_true_eq] at e
      obtain ⟨e0, e1, e2, e3, e4, e5⟩ := e
      simp [go_sem, Tryz.underlying3, Tryz.underlying4, eqIn_six2, h0, e0, e1, e2, e3, e4, e5]
      by_cases hf : s.f = t.f <;> simp [hf]
    | false =>
      have e : (decide (s.c 0 = t.c 0) && (decide (s.c 1 = t.c 1) && (decide (s.c 2 = t.c 2) && (decide (s.c 3 = t.c 3) && (decide (s.c 4 = t.c 4) && (decide (s.c 5 = t.c 5) && (s.f == t.f))))))) = false := by
        revert hsix
        cases decide (s.c 0 = t.c 0) <;> cases decide (s.c 1 = t.c 1) <;> cases decide (s.c 2 = t.c 2) <;> cases decide (s.c 3 = t.c 3) <;> cases decide (s.c 4 = t.c 4) <;> cases decide (s.c 5 = t.c 5) <;> simp
      rw [e]
      simp [go_sem, Tryz.underlying3, Tryz.underlying4, eqIn_six2, h0, hsix]
  · simp [go_sem, Tryz.underlying3, Tryz.underlying4, h0]
theorem neq_st2 (s t : St) (w : World) : (binOp .neq 39 (.agg #[.int .i64 s.p, .int .i64 (s.c 0), .int .i64 (s.c 1), .int .i64 (s.c 2), .int .i64 (s.c 3), .int .i64 (s.c 4), .int .i64 (s.c 5), .bool s.f]) (.agg #[.int .i64 t.p, .int .i64 (t.c 0), .int .i64 (t.c 1), .int .i64 (t.c 2), .int .i64 (t.c 3), .int .i64 (t.c 4), .int .i64 (t.c 5), .bool t.f])).run Tryz.prog w = .ok (.bool (!(sameS s t))) w := by
  rw [run_neq_struct, eqIn_st2]
  rfl
end Go.Proofs.YteoemcekkcnplaeGreatDoor
namespace Go.Proofs.YteoemcekkcnplaeGreatDoor
open Go.RowKit

/-- A plan that is short enough to be held against another one. -/
theorem plan_short {p : PD} (hp : plchk p = 0) : p.code.length ≤ 1000 ∧ p.spans.length ≤ 1000 ∧ p.wires.length ≤ 1000 ∧ ∀ c ∈ p.code, c.length ≤ 1000 := by
  obtain ⟨h1, _, h2, h3, _, _, h4, _⟩ := plchk_zero hp
  have h5 := (fchk_zero h2).2.2.1
  have h6 := (wschk_ok h3).1
  exact ⟨by omega, by omega, by omega, fun c hc => by have := (chk_zero (codesE_zero h4 c hc)).2.1; omega⟩
theorem prg_short (p : PD) (r : Int) : (prgP p r).code.length ≤ 1000 ∧ (prgP p r).spans.length ≤ 1000 ∧ (prgP p r).wires.length ≤ 1000 ∧ ∀ c ∈ (prgP p r).code, c.length ≤ 1000 := by
  unfold prgP
  split
  · rename_i h
    exact plan_short (purge_right _ (prgE_zero h).1)
  · exact ⟨by simp [noPlan], by simp [noPlan], by simp [noPlan], fun c hc => by simp [noPlan] at hc⟩
set_option maxRecDepth 100000 in
set_option maxHeartbeats 16000000 in
theorem ptells_of {G : World → Prop} (hall : ∀ w w', G w → Below w.heap.size w w' → G w') (P : PrgPurge G) (S : PrgSame G) (hE : ∀ (e : Int) (W : World), G W → Calls Tryz.prog 7 #[wErr e, .int .i64 e] W fun r w' => r = .returned (.bool true) ∧ Below W.heap.size W w')
    (hR : ∀ (p : PD) (vc vs vw : Value) (W : World), Pln W vc vs vw p → Calls Tryz.prog 4 #[plV vc p.ticks vs vw] W fun e w' => e = .returned (.int .i64 (plchk p)) ∧ Below W.heap.size W w')
    (hPu : ∀ (p : PD) (vc vs vw : Value) (r : Nat) (w0 w : World), plchk p = 0 → Pln w0 vc vs vw p → Below w0.heap.size w0 w → r < p.code.length → Calls Tryz.prog 5 #[plV vc p.ticks vs vw, .int .i64 r] w fun e w' => ∃ ic, e = .returned (plV ic p.ticks vs vw) ∧ (∀ M W', KTouch M w' W' → (∀ m ∈ M, w0.heap.size ≤ m ∧ m < w.heap.size) → Pln W' ic vs vw (purgeP p (fun i => way p.wires i r))) ∧ Below w.heap.size w w')
    (hSt : ∀ (p : PD) (vc vs vw : Value) (n r : Nat) (w : World), plchk p = 0 → Pln w vc vs vw p → n ≤ 2000 → r < p.code.length → Calls Tryz.prog 9 #[plV vc p.ticks vs vw, .int .i64 n, .int .i64 r] w fun e w' => ∃ v, e = .returned v ∧ StL w' v (statesK p n r) ∧ Below w.heap.size w w')
    (p q : PD) (vc vs vw ic is iw : Value) (n r : Int) (w : World) (hG : G w) (hP : Pln w vc vs vw p) (hQ : Pln w ic is iw q) :
    Calls Tryz.prog 3 #[plV vc p.ticks vs vw, plV ic q.ticks is iw, .int .i64 n, .int .i64 r] w fun e w' => e = .returned (.bool true) ∧ Below w.heap.size w w' := by
  obtain ⟨ca, cc, rfl⟩ := hP.code.form
  obtain ⟨sa, sc, rfl⟩ := hP.spans.form
  obtain ⟨wa, wc', rfl⟩ := hP.wires.form
  obtain ⟨xa, xc, rfl⟩ := hQ.code.form
  obtain ⟨ya, yc, rfl⟩ := hQ.spans.form
  obtain ⟨za, zc', rfl⟩ := hQ.wires.form
  have hx0 := Bxt.first w (.slice ca p.code.length cc) p.ticks (.slice sa p.spans.length sc) (.slice wa p.wires.length wc') (.slice xa q.code.length xc) q.ticks (.slice ya q.spans.length yc) (.slice za q.wires.length zc')
  have HP : Hid (Pln w (.slice ca p.code.length cc) (.slice sa p.spans.length sc) (.slice wa p.wires.length wc') p) := hP
  have HQ : Hid (Pln w (.slice xa q.code.length xc) (.slice ya q.spans.length yc) (.slice za q.wires.length zc') q) := hQ
  have HG : Hid (∀ W, Below w.heap.size w W → G W) := fun W hb => hall w W hG hb
  have HE : Hid (∀ (e : Int) (W : World), Below w.heap.size w W → Calls Tryz.prog 7 #[wErr e, .int .i64 e] W fun r w' => r = .returned (.bool true) ∧ Below W.heap.size W w') := fun e W hb => hE e W (HG.out W hb)
  have HRp : Hid (∀ W, Below w.heap.size w W → Calls Tryz.prog 4 #[.agg #[.slice ca p.code.length cc, .int .i64 p.ticks, .slice sa p.spans.length sc, .slice wa p.wires.length wc']] W fun e w' => e = .returned (.int .i64 (plchk p)) ∧ Below W.heap.size W w') := fun W hb => hR p _ _ _ W (HP.out.all hb)
  have HRq : Hid (∀ W, Below w.heap.size w W → Calls Tryz.prog 4 #[.agg #[.slice xa q.code.length xc, .int .i64 q.ticks, .slice ya q.spans.length yc, .slice za q.wires.length zc']] W fun e w' => e = .returned (.int .i64 (plchk q)) ∧ Below W.heap.size W w') := fun W hb => hR q _ _ _ W (HQ.out.all hb)
  unfold plV
  clear hP hQ hG hE hR
  go_enter Tryz.func3, Tryz.ntmps3
  go_upto_region 1 with fail
  generalize hWA : (w.alloc (.cells #[.slice ca p.code.length cc, .int .i64 p.ticks, .slice sa p.spans.length sc, .slice wa p.wires.length wc'] 26)).alloc (.cells #[.slice xa q.code.length xc, .int .i64 q.ticks, .slice ya q.spans.length yc, .slice za q.wires.length zc'] 26) = WA at hx0 ⊢
  clear hWA
  go_cut [26] from 21 to 25 (fun s26 wx => s26 = .bool (decide (200 < n ∧ n ≤ 2000)) ∧ wx = WA)
  case first =>
    by_cases h1 : 200 < n
    · by_cases h2 : n ≤ 2000
      · have h2' : decide (n ≤ 2000) = true := decide_eq_true h2
        have h1' : decide (200 < n) = true := decide_eq_true h1
        have HX : Hid (decide (200 < n ∧ n ≤ 2000) = true) := decide_eq_true ⟨h1, h2⟩
        go_wp2_with fail
        go_meet
        case rel => exact ⟨by rw [HX.out], rfl⟩
      · have h2' : decide (n ≤ 2000) = false := decide_eq_false h2
        have h1' : decide (200 < n) = true := decide_eq_true h1
        have HX : Hid (decide (200 < n ∧ n ≤ 2000) = false) := decide_eq_false (fun e => h2 e.2)
        go_wp2_with fail
        go_meet
        case rel => exact ⟨by rw [HX.out], rfl⟩
    · have h1' : decide (200 < n) = false := decide_eq_false h1
      have HX : Hid (decide (200 < n ∧ n ≤ 2000) = false) := decide_eq_false (fun e => h1 e.1)
      go_wp2_with fail
      go_meet
      case rel => exact ⟨by rw [HX.out], rfl⟩
  case rest =>
  obtain ⟨rfl, hwx⟩ := hcut
  rw [hwx]
  clear hwx
  go_step
  go_cut [2] from 26 to 28 (fun s2 wx => s2 = .int .i64 (nnP n) ∧ wx = WA)
  case first =>
    by_cases h0 : 200 < n ∧ n ≤ 2000
    · have HX : Hid (nnP n = n % 200) := by show _ = _; unfold nnP; rw [if_pos h0]
      have hd : decide (200 < n ∧ n ≤ 2000) = true := decide_eq_true h0
      rw [hd]
      clear hd
      obtain ⟨h1, h2⟩ := h0
      go_wp2_with fail
      go_meet
      case rel => exact ⟨by rw [HX.out], rfl⟩
    · have HX : Hid (nnP n = n) := by show _ = _; unfold nnP; rw [if_neg h0]
      have hd : decide (200 < n ∧ n ≤ 2000) = false := decide_eq_false h0
      rw [hd]
      clear h0 hd
      go_wp2_with fail
      go_meet
      case rel => exact ⟨by rw [HX.out], rfl⟩
  case rest =>
  obtain ⟨rfl, hwx⟩ := hcut
  rw [hwx]
  clear hwx
  generalize nnP n = nn at *
  clear n
  have hc := hx0.cs
  obtain ⟨k0, k1, k2, k3⟩ := hc
  have q1 := HRp.out WA hx0.below
  have HF := prgE_two p r
  have HFE : Hid (prgE p r = if plchk p = 0 ∧ (r < 0 ∨ (p.code.length : Int) ≤ r) then 1 else plchk p) := HF
  clear HF
  obtain ⟨z, hz⟩ : ∃ z, plchk p = z := ⟨_, rfl⟩
  have HZ : Hid (plchk p = z) := hz
  rw [hz] at q1 HFE
  clear hz
  go_upto_region 5 with (go_at_call 4; refine q1.mono ?_; rintro e w1 ⟨rfl, b1⟩; clear q1)
  have hx1 := hx0.step b1
  clear b1 hx0 k0 k1 k2 k3
  obtain ⟨k0, k1, k2, k3⟩ := hx1.cs
  go_cut [44] from 32 to 43 (fun s44 wx => s44 = .bool (decide (z = 0 ∧ (r < 0 ∨ (p.code.length : Int) ≤ r))) ∧ wx = w1)
  case first =>
    by_cases h0 : z = 0
    · have h0' : (z == 0) = true := by simpa using h0
      by_cases h1 : r < 0
      · have h1' : decide (r < 0) = true := decide_eq_true h1
        have HX : Hid (decide (z = 0 ∧ (r < 0 ∨ (p.code.length : Int) ≤ r)) = true) := decide_eq_true ⟨h0, Or.inl h1⟩
        clear h0
        go_wp2_with fail
        go_meet
        case rel => exact ⟨by rw [HX.out], rfl⟩
      have h1' : decide (r < 0) = false := decide_eq_false h1
      by_cases h2 : (p.code.length : Int) ≤ r
      · have h2' : decide ((p.code.length : Int) ≤ r) = true := decide_eq_true h2
        have HX : Hid (decide (z = 0 ∧ (r < 0 ∨ (p.code.length : Int) ≤ r)) = true) := decide_eq_true ⟨h0, Or.inr h2⟩
        clear h0
        go_wp2_with fail
        go_meet
        case rel => exact ⟨by rw [HX.out], rfl⟩
      have h2' : decide ((p.code.length : Int) ≤ r) = false := decide_eq_false h2
      have HX : Hid (decide (z = 0 ∧ (r < 0 ∨ (p.code.length : Int) ≤ r)) = false) := decide_eq_false (fun e => by omega)
      clear h0
      go_wp2_with fail
      go_meet
      case rel => exact ⟨by rw [HX.out], rfl⟩
    · have h0' : (z == 0) = false := by simpa using h0
      have HX : Hid (decide (z = 0 ∧ (r < 0 ∨ (p.code.length : Int) ≤ r)) = false) := decide_eq_false (fun e => h0 e.1)
      clear h0
      go_wp2_with fail
      go_meet
      case rel => exact ⟨by rw [HX.out], rfl⟩
  case rest =>
  obtain ⟨rfl, hwx⟩ := hcut
  rw [hwx]
  clear hwx
  go_step
  go_cut [10] from 44 to 44 (fun s10 wx => s10 = .int .i64 (prgE p r) ∧ wx = w1)
  case first =>
    by_cases h0 : z = 0 ∧ (r < 0 ∨ (p.code.length : Int) ≤ r)
    · have HX : Hid (prgE p r = 1) := by show _ = _; rw [HFE.out, if_pos h0]
      have hd : decide (z = 0 ∧ (r < 0 ∨ (p.code.length : Int) ≤ r)) = true := decide_eq_true h0
      rw [hd]
      clear h0 hd
      go_wp2_with fail
      go_meet
      case rel => exact ⟨by rw [HX.out], rfl⟩
    · have HX : Hid (prgE p r = z) := by show _ = _; rw [HFE.out, if_neg h0]
      have hd : decide (z = 0 ∧ (r < 0 ∨ (p.code.length : Int) ≤ r)) = false := decide_eq_false h0
      rw [hd]
      clear h0 hd
      go_wp2_with fail
      go_meet
      case rel => exact ⟨by rw [HX.out], rfl⟩
  case rest =>
  obtain ⟨rfl, hwx⟩ := hcut
  rw [hwx]
  clear hwx HFE
  go_upto_region 8 with fail
  obtain ⟨f, hf⟩ : ∃ f, prgE p r = f := ⟨_, rfl⟩
  have HFf : Hid (prgE p r = f) := hf
  rw [hf]
  clear hf
  have hA : Below w1.heap.size w1 (w1.alloc (.cells #[.slice none 0 0, .int .i64 0, .slice none 0 0, .slice none 0 0] 26)) := (Below.refl _ _).alloc (Nat.le_refl _) _
  have hx2 := hx1.step hA
  have hs2 : (w1.alloc (.cells #[.slice none 0 0, .int .i64 0, .slice none 0 0, .slice none 0 0] 26)).heap.size = w1.heap.size + 1 := by simp
  have HB : Hid ((w1.alloc (.cells #[.slice none 0 0, .int .i64 0, .slice none 0 0, .slice none 0 0] 26)).heap[w1.heap.size]? = some (.cells #[.slice none 0 0, .int .i64 0, .slice none 0 0, .slice none 0 0] 26)) := World.alloc_heap_new _ _
  have hs1 := hx1.size
  generalize w1.alloc (.cells #[.slice none 0 0, .int .i64 0, .slice none 0 0, .slice none 0 0] 26) = w2 at hA hx2 hs2 HB ⊢
  clear hx1 k0 k1 k2 k3
  obtain ⟨k0, k1, k2, k3⟩ := hx2.cs
  go_cut [46] from 45 to 45 (fun s46 wx => s46 = .bool (decide (f = 0)) ∧ wx = w2)
  case first =>
    go_wp2_with fail
    go_meet
    case rel => exact ⟨by rw [show (f == 0) = decide (f = 0) by by_cases h : f = 0 <;> simp [h]], rfl⟩
  case rest =>
  obtain ⟨rfl, hwx⟩ := hcut
  rw [hwx]
  clear hwx
  go_step
  go_cut [10] from 46 to 49 (fun s10 wx => s10 = .int .i64 f ∧ (∃ a1 c1 a2 c2 a3 c3, wx.cell? ⟨w1.heap.size, 0, none⟩ = some (.slice a1 (prgP p r).code.length c1) ∧ wx.cell? ⟨w1.heap.size, 1, none⟩ = some (.int .i64 (prgP p r).ticks) ∧ wx.cell? ⟨w1.heap.size, 2, none⟩ = some (.slice a2 (prgP p r).spans.length c2) ∧ wx.cell? ⟨w1.heap.size, 3, none⟩ = some (.slice a3 (prgP p r).wires.length c3) ∧ Pln wx (.slice a1 (prgP p r).code.length c1) (.slice a2 (prgP p r).spans.length c2) (.slice a3 (prgP p r).wires.length c3) (prgP p r)) ∧ w1.heap.size < wx.heap.size ∧ Bxt w wx (.slice ca p.code.length cc) p.ticks (.slice sa p.spans.length sc) (.slice wa p.wires.length wc') (.slice xa q.code.length xc) q.ticks (.slice ya q.spans.length yc) (.slice za q.wires.length zc'))
  case first =>
    by_cases h0 : f = 0
    · have hd : decide (f = 0) = true := decide_eq_true h0
      rw [hd]
      obtain ⟨hp0, hr0, hr1⟩ := prgE_zero (HFf.out.trans h0)
      have HPP : Hid (prgP p r = purgeP p (fun i => way p.wires i r.toNat)) := by show _ = _; unfold prgP; rw [if_pos (HFf.out.trans h0)]
      obtain ⟨rn, rfl⟩ : ∃ k : Nat, r = k := ⟨r.toNat, by omega⟩
      rw [Int.toNat_natCast] at HPP
      have HC : Hid (Calls Tryz.prog 5 #[.agg #[.slice ca p.code.length cc, .int .i64 p.ticks, .slice sa p.spans.length sc, .slice wa p.wires.length wc'], .int .i64 rn] w2 fun e w' => ∃ jo jn jc, e = .returned (.agg #[.slice jo jn jc, .int .i64 p.ticks, .slice sa p.spans.length sc, .slice wa p.wires.length wc']) ∧ (∀ M W', KTouch M w' W' → (∀ m ∈ M, w.heap.size ≤ m ∧ m < w2.heap.size) → Pln W' (.slice jo jn jc) (.slice sa p.spans.length sc) (.slice wa p.wires.length wc') (purgeP p (fun i => way p.wires i rn))) ∧ Below w2.heap.size w2 w') := by
        refine (hPu p _ _ _ rn w w2 hp0 HP.out hx2.below (by omega)).mono ?_
        rintro e w' ⟨ic, rfl, h1, h2⟩
        obtain ⟨jo, jc, hj⟩ := (h1 [] w' (KTouch.refl _ _) (by simp)).code.form
        subst hj
        exact ⟨_, _, _, rfl, h1, h2⟩
      clear h0 hd
      go_wp2_with (go_at_call 5; refine HC.out.mono ?_; rintro e w3 ⟨jo, jn, jc, rfl, hpl, b3⟩; have hk3 : w3.heap[w1.heap.size]? = some (.cells #[.slice none 0 0, .int .i64 0, .slice none 0 0, .slice none 0 0] 26) := (b3.block w1.heap.size (by omega)).trans HB.out; have z0 : w3.cell? ⟨w1.heap.size, 0, none⟩ = some (.slice none 0 0) := (by simp [World.cell?, hk3]); have z1 : w3.cell? ⟨w1.heap.size, 1, none⟩ = some (.int .i64 0) := (by simp [World.cell?, hk3]); have z2 : w3.cell? ⟨w1.heap.size, 2, none⟩ = some (.slice none 0 0) := (by simp [World.cell?, hk3]); have z3 : w3.cell? ⟨w1.heap.size, 3, none⟩ = some (.slice none 0 0) := (by simp [World.cell?, hk3]); have y0 : w3.frozen? ⟨w1.heap.size, 0, none⟩ = false := (by simp [World.frozen?, hk3]); have y1 : w3.frozen? ⟨w1.heap.size, 1, none⟩ = false := (by simp [World.frozen?, hk3]); have y2 : w3.frozen? ⟨w1.heap.size, 2, none⟩ = false := (by simp [World.frozen?, hk3]); have y3 : w3.frozen? ⟨w1.heap.size, 3, none⟩ = false := (by simp [World.frozen?, hk3]); have HPl : Hid (∀ M W', KTouch M w3 W' → (∀ m ∈ M, w.heap.size ≤ m ∧ m < w2.heap.size) → Pln W' (.slice jo jn jc) (.slice sa p.spans.length sc) (.slice wa p.wires.length wc') (purgeP p (fun i => way p.wires i rn))) := hpl; clear hpl hk3)
      go_meet
      case rel =>
        have htk : KTouch [w1.heap.size] w3 ((((w3.setCell ⟨w1.heap.size, 0, none⟩ (.slice jo jn jc)).setCell ⟨w1.heap.size, 1, none⟩ (.int .i64 p.ticks)).setCell ⟨w1.heap.size, 2, none⟩ (.slice sa p.spans.length sc)).setCell ⟨w1.heap.size, 3, none⟩ (.slice wa p.wires.length wc')) :=
          (((KTouch.set w3 (by simp) 0 _).trans (KTouch.set _ (by simp) 1 _)).trans (KTouch.set _ (by simp) 2 _)).trans (KTouch.set _ (by simp) 3 _)
        have hpl := HPl.out _ _ htk (fun m hm => by rw [List.mem_singleton] at hm; omega)
        have hsz := htk.size
        have hs3 := b3.size
        have hjn : jn = (prgP p rn).code.length := by
          obtain ⟨_, _, hj⟩ := hpl.code.form
          injection hj with _ e2 _
          rw [HPP.out, e2]
        subst hjn
        refine ⟨rfl, ⟨jo, jc, sa, sc, wa, wc', ?_, ?_, ?_, ?_, ?_⟩, by omega, (hx2.step b3).set htk (fun m hm => by rw [List.mem_singleton] at hm; omega)⟩
        · simp [go_sem, z0]
        · rw [HPP.out]; simp [go_sem, z1, purgeP]
        · rw [HPP.out]; simp [go_sem, z2, purgeP]
        · rw [HPP.out]; simp [go_sem, z3, purgeP]
        · rw [HPP.out] at hpl ⊢
          exact hpl
    · have hd : decide (f = 0) = false := decide_eq_false h0
      rw [hd]
      have HPP : Hid (prgP p r = noPlan) := by show _ = _; unfold prgP; rw [if_neg (by rw [HFf.out]; exact h0)]
      clear h0 hd
      go_wp2_with fail
      go_meet
      case rel =>
        have hk3 := HB.out
        rw [HPP.out]
        exact ⟨rfl, ⟨none, 0, none, 0, none, 0, by simp [World.cell?, hk3, noPlan], by simp [World.cell?, hk3, noPlan], by simp [World.cell?, hk3, noPlan], by simp [World.cell?, hk3, noPlan], ⟨Or.inl ⟨rfl, _, _, rfl⟩, Or.inl ⟨rfl, _, _, rfl⟩, Or.inl ⟨rfl, _, _, rfl⟩⟩⟩, by omega, hx2⟩
  case rest =>
  obtain ⟨rfl, ⟨a1, c1, a2, c2, a3, c3, m0, m1, m2, m3, hpw⟩, hlt3, hx3⟩ := hcut
  clear hx2 hA HB k0 k1 k2 k3 hs2
  generalize wc = W3 at *
  have HPg : Hid (∀ W, Below w.heap.size w W → Calls Tryz.prog 6 #[.agg #[.slice ca p.code.length cc, .int .i64 p.ticks, .slice sa p.spans.length sc, .slice wa p.wires.length wc'], .int .i64 r] W fun e w' => ∃ a4 c4 a5 c5 a6 c6, e = .returned (.tuple #[.agg #[.slice a4 (prgP p r).code.length c4, .int .i64 (prgP p r).ticks, .slice a5 (prgP p r).spans.length c5, .slice a6 (prgP p r).wires.length c6], wErr f]) ∧ Pln w' (.slice a4 (prgP p r).code.length c4) (.slice a5 (prgP p r).spans.length c5) (.slice a6 (prgP p r).wires.length c6) (prgP p r) ∧ Below W.heap.size W w') := fun W hb => by
    have := P p _ _ _ r W (HG.out W hb) (HP.out.all hb)
    rw [HFf.out] at this
    refine this.mono ?_
    rintro e w' ⟨jc, js, jw, rfl, h1, h2⟩
    obtain ⟨a4, c4, rfl⟩ := h1.code.form
    obtain ⟨a5, c5, rfl⟩ := h1.spans.form
    obtain ⟨a6, c6, rfl⟩ := h1.wires.form
    exact ⟨a4, c4, a5, c5, a6, c6, rfl, h1, h2⟩
  have HEf : Hid (∀ W, Below w.heap.size w W → Calls Tryz.prog 7 #[wErr f, .int .i64 f] W fun r w' => r = .returned (.bool true) ∧ Below W.heap.size W w') := fun W hb => HE.out f W hb
  have HSP : Hid (∀ W b1 d1 b2 d2 b3 d3 e1 f1 e2 f2 e3 f3, Pln W (.slice b1 (prgP p r).code.length d1) (.slice b2 (prgP p r).spans.length d2) (.slice b3 (prgP p r).wires.length d3) (prgP p r) → Pln W (.slice e1 (prgP p r).code.length f1) (.slice e2 (prgP p r).spans.length f2) (.slice e3 (prgP p r).wires.length f3) (prgP p r) → Calls Tryz.prog 8 #[.agg #[.slice b1 (prgP p r).code.length d1, .int .i64 (prgP p r).ticks, .slice b2 (prgP p r).spans.length d2, .slice b3 (prgP p r).wires.length d3], .agg #[.slice e1 (prgP p r).code.length f1, .int .i64 (prgP p r).ticks, .slice e2 (prgP p r).spans.length f2, .slice e3 (prgP p r).wires.length f3]] W fun e w' => e = .returned (.bool true) ∧ Below W.heap.size W w') := fun W b1 d1 b2 d2 b3 d3 e1 f1 e2 f2 e3 f3 h1 h2 => by
    obtain ⟨l1, l2, l3, l4⟩ := prg_short p r
    exact sameplan_any (prgP p r) _ _ _ _ _ _ W h1 h2 l1 l2 l3 l4
  obtain ⟨ev, hev⟩ : ∃ v, v = wErr f := ⟨_, rfl⟩
  rw [← hev] at HPg HEf
  clear hev
  obtain ⟨k0, k1, k2, k3⟩ := hx3.cs
  have HPW : Hid (Pln W3 (.slice a1 (prgP p r).code.length c1) (.slice a2 (prgP p r).spans.length c2) (.slice a3 (prgP p r).wires.length c3) (prgP p r)) := hpw
  clear hpw
  have q4 := HPg.out W3 hx3.below
  go_upto_region 12 with (first
    | (go_at_call 6; refine q4.mono ?_; rintro e w4 ⟨a4, c4, a5, c5, a6, c6, rfl, hp4, b4⟩; clear q4; have b5 : Below W3.heap.size W3 (w4.alloc (.cells #[.slice a4 (prgP p r).code.length c4, .int .i64 (prgP p r).ticks, .slice a5 (prgP p r).spans.length c5, .slice a6 (prgP p r).wires.length c6] 26)) := b4.alloc b4.size _; have HP4 : Hid (Pln w4 (.slice a4 (prgP p r).code.length c4) (.slice a5 (prgP p r).spans.length c5) (.slice a6 (prgP p r).wires.length c6) (prgP p r)) := hp4; clear hp4; have hx5 := hx3.step b5; have q5 := HEf.out _ hx5.below)
    | (go_at_call 7; refine q5.mono ?_; rintro e w6 ⟨rfl, b6⟩; clear q5; have hx6 := hx5.step b6; have b46 : Below w4.heap.size w4 w6 := ((Below.refl _ _).alloc (Nat.le_refl _) _).trans (b6.mono (by simp)); have b36 := b5.trans (b6.mono b5.size); have n0 : w6.cell? ⟨w4.heap.size, 0, none⟩ = some (.slice a4 (prgP p r).code.length c4) := (b6.cell (p := ⟨w4.heap.size, 0, none⟩) (by simp)).trans (by simp); have n1 : w6.cell? ⟨w4.heap.size, 1, none⟩ = some (.int .i64 (prgP p r).ticks) := (b6.cell (p := ⟨w4.heap.size, 1, none⟩) (by simp)).trans (by simp); have n2 : w6.cell? ⟨w4.heap.size, 2, none⟩ = some (.slice a5 (prgP p r).spans.length c5) := (b6.cell (p := ⟨w4.heap.size, 2, none⟩) (by simp)).trans (by simp); have n3 : w6.cell? ⟨w4.heap.size, 3, none⟩ = some (.slice a6 (prgP p r).wires.length c6) := (b6.cell (p := ⟨w4.heap.size, 3, none⟩) (by simp)).trans (by simp); have o0 := (b36.cell (p := ⟨w1.heap.size, 0, none⟩) hlt3).trans m0; have o1 := (b36.cell (p := ⟨w1.heap.size, 1, none⟩) hlt3).trans m1; have o2 := (b36.cell (p := ⟨w1.heap.size, 2, none⟩) hlt3).trans m2; have o3 := (b36.cell (p := ⟨w1.heap.size, 3, none⟩) hlt3).trans m3; have q6 := HSP.out w6 _ _ _ _ _ _ _ _ _ _ _ _ (HP4.out.all b46) (HPW.out.all b36))
    | (go_at_call 8; refine q6.mono ?_; rintro e w7 ⟨rfl, b7⟩; clear q6))
  have hx7 := hx6.step b7
  clear hx3 hx5 hx6 b4 b5 b6 b7 b46 b36 n0 n1 n2 n3 o0 o1 o2 o3 m0 m1 m2 m3 k0 k1 k2 k3 HPg HEf HSP HP4 HPW hlt3 hs1
  generalize w7 = W4 at *
  obtain ⟨d0, d1, d2, d3⟩ := hx7.ds
  go_cut [65] from 64 to 64 (fun s65 wx => s65 = .bool (decide (z = 0)) ∧ wx = W4)
  case first =>
    go_wp2_with fail
    go_meet
    case rel => exact ⟨by rw [show (z == 0) = decide (z = 0) by by_cases h : z = 0 <;> simp [h]], rfl⟩
  case rest =>
  obtain ⟨rfl, hwx⟩ := hcut
  rw [hwx]
  clear hwx
  go_step
  go_cut [9] from 65 to 67 (fun s9 wx => s9 = .int .i64 (twoE p q) ∧ Bxt w wx (.slice ca p.code.length cc) p.ticks (.slice sa p.spans.length sc) (.slice wa p.wires.length wc') (.slice xa q.code.length xc) q.ticks (.slice ya q.spans.length yc) (.slice za q.wires.length zc'))
  case first =>
    by_cases h0 : z = 0
    · have hd : decide (z = 0) = true := decide_eq_true h0
      rw [hd]
      have HX : Hid (twoE p q = plchk q) := by show _ = _; unfold twoE; rw [if_pos (HZ.out.trans h0)]
      have q8 := HRq.out W4 hx7.below
      clear h0 hd
      go_wp2_with (go_at_call 4; refine q8.mono ?_; rintro e w8 ⟨rfl, b8⟩; clear q8)
      go_meet
      case rel => exact ⟨by rw [HX.out], hx7.step b8⟩
    · have hd : decide (z = 0) = false := decide_eq_false h0
      rw [hd]
      have HX : Hid (twoE p q = z) := by show _ = _; unfold twoE; rw [if_neg (by rw [HZ.out]; exact h0)]; exact HZ.out
      clear h0 hd
      go_wp2_with fail
      go_meet
      case rel => exact ⟨by rw [HX.out], hx7⟩
  case rest =>
  clear hx7 d0 d1 d2 d3
  obtain ⟨rfl, hx8⟩ := hcut
  generalize wc = W5 at *
  have HLE : Hid (likeE p q nn r = if twoE p q = 0 ∧ badL p q nn r then 1 else twoE p q) := likeE_two p q nn r
  generalize twoE p q = y at HLE ⊢
  obtain ⟨k0, k1, k2, k3⟩ := hx8.cs
  obtain ⟨d0, d1, d2, d3⟩ := hx8.ds
  go_upto_region 14 with fail
  go_cut [95] from 68 to 94 (fun s95 wx => s95 = .bool (decide (y = 0 ∧ badL p q nn r)) ∧ wx = W5)
  case first =>
    by_cases h0 : y = 0
    · have h0' : (y == 0) = true := by simpa using h0
      by_cases h1 : r < 0
      · have h1' : decide (r < 0) = true := decide_eq_true h1
        have HX : Hid (decide (y = 0 ∧ badL p q nn r) = true) := decide_eq_true ⟨h0, Or.inl h1⟩
        clear h0
        go_wp2_with fail
        go_meet
        case rel => exact ⟨by rw [HX.out], rfl⟩
      have h1' : decide (r < 0) = false := decide_eq_false h1
      by_cases h2 : (p.code.length : Int) ≤ r
      · have h2' : decide ((p.code.length : Int) ≤ r) = true := decide_eq_true h2
        have HX : Hid (decide (y = 0 ∧ badL p q nn r) = true) := decide_eq_true ⟨h0, Or.inr (Or.inl h2)⟩
        clear h0
        go_wp2_with fail
        go_meet
        case rel => exact ⟨by rw [HX.out], rfl⟩
      have h2' : decide ((p.code.length : Int) ≤ r) = false := decide_eq_false h2
      by_cases h3 : (q.code.length : Int) ≤ r
      · have h3' : decide ((q.code.length : Int) ≤ r) = true := decide_eq_true h3
        have HX : Hid (decide (y = 0 ∧ badL p q nn r) = true) := decide_eq_true ⟨h0, Or.inr (Or.inr (Or.inl h3))⟩
        clear h0
        go_wp2_with fail
        go_meet
        case rel => exact ⟨by rw [HX.out], rfl⟩
      have h3' : decide ((q.code.length : Int) ≤ r) = false := decide_eq_false h3
      by_cases h4 : nn < 0
      · have h4' : decide (nn < 0) = true := decide_eq_true h4
        have HX : Hid (decide (y = 0 ∧ badL p q nn r) = true) := decide_eq_true ⟨h0, Or.inr (Or.inr (Or.inr (Or.inl h4)))⟩
        clear h0
        go_wp2_with fail
        go_meet
        case rel => exact ⟨by rw [HX.out], rfl⟩
      have h4' : decide (nn < 0) = false := decide_eq_false h4
      by_cases h5 : 2000 < nn
      · have h5' : decide (2000 < nn) = true := decide_eq_true h5
        have HX : Hid (decide (y = 0 ∧ badL p q nn r) = true) := decide_eq_true ⟨h0, Or.inr (Or.inr (Or.inr (Or.inr h5)))⟩
        clear h0
        go_wp2_with fail
        go_meet
        case rel => exact ⟨by rw [HX.out], rfl⟩
      have h5' : decide (2000 < nn) = false := decide_eq_false h5
      have HX : Hid (decide (y = 0 ∧ badL p q nn r) = false) := decide_eq_false (fun e => by have h := e.2; unfold badL at h; omega)
      clear h0
      go_wp2_with fail
      go_meet
      case rel => exact ⟨by rw [HX.out], rfl⟩
    · have h0' : (y == 0) = false := by simpa using h0
      have HX : Hid (decide (y = 0 ∧ badL p q nn r) = false) := decide_eq_false (fun e => h0 e.1)
      clear h0
      go_wp2_with fail
      go_meet
      case rel => exact ⟨by rw [HX.out], rfl⟩
  case rest =>
  obtain ⟨rfl, hwx⟩ := hcut
  rw [hwx]
  clear hwx
  go_step
  go_cut [9] from 95 to 95 (fun s9 wx => s9 = .int .i64 (likeE p q nn r) ∧ wx = W5)
  case first =>
    by_cases h0 : y = 0 ∧ badL p q nn r
    · have HX : Hid (likeE p q nn r = 1) := by show _ = _; rw [HLE.out, if_pos h0]
      have hd : decide (y = 0 ∧ badL p q nn r) = true := decide_eq_true h0
      rw [hd]
      clear h0 hd
      go_wp2_with fail
      go_meet
      case rel => exact ⟨by rw [HX.out], rfl⟩
    · have HX : Hid (likeE p q nn r = y) := by show _ = _; rw [HLE.out, if_neg h0]
      have hd : decide (y = 0 ∧ badL p q nn r) = false := decide_eq_false h0
      rw [hd]
      clear h0 hd
      go_wp2_with fail
      go_meet
      case rel => exact ⟨by rw [HX.out], rfl⟩
  case rest =>
  obtain ⟨rfl, hwx⟩ := hcut
  rw [hwx]
  clear hwx HLE
  obtain ⟨g, hg⟩ : ∃ g, likeE p q nn r = g := ⟨_, rfl⟩
  have HGg : Hid (likeE p q nn r = g) := hg
  rw [hg]
  clear hg
  go_upto_region 17 with fail
  go_cut [97] from 96 to 96 (fun s97 wx => s97 = .bool (decide (g = 0)) ∧ wx = W5)
  case first =>
    go_wp2_with fail
    go_meet
    case rel => exact ⟨by rw [show (g == 0) = decide (g = 0) by by_cases h : g = 0 <;> simp [h]], rfl⟩
  case rest =>
  obtain ⟨rfl, hwx⟩ := hcut
  rw [hwx]
  clear hwx
  go_step
  go_cut [15, 16, 17, 18] from 97 to 120 (fun s15 _ _ _ wx => s15 = .int .i64 (likeAt p q nn r) ∧ Bxt w wx (.slice ca p.code.length cc) p.ticks (.slice sa p.spans.length sc) (.slice wa p.wires.length wc') (.slice xa q.code.length xc) q.ticks (.slice ya q.spans.length yc) (.slice za q.wires.length zc'))
  case first =>
    by_cases h0 : g = 0
    · have hd : decide (g = 0) = true := decide_eq_true h0
      rw [hd]
      obtain ⟨hp0, hq0, hr0, hr1, hr2, hn0, hn1⟩ := likeE_zero (HGg.out.trans h0)
      obtain ⟨nk, rfl⟩ : ∃ k : Nat, nn = k := ⟨nn.toNat, by omega⟩
      obtain ⟨rn, rfl⟩ : ∃ k : Nat, r = k := ⟨r.toNat, by omega⟩
      have HX : Hid (likeAt p q nk rn = partAt (statesK p nk rn) (statesK q nk rn) 0) := by show _ = _; unfold likeAt; rw [if_pos (HGg.out.trans h0), Int.toNat_natCast, Int.toNat_natCast]
      have HSa : Hid (∀ W, Below w.heap.size w W → Calls Tryz.prog 9 #[.agg #[.slice ca p.code.length cc, .int .i64 p.ticks, .slice sa p.spans.length sc, .slice wa p.wires.length wc'], .int .i64 nk, .int .i64 rn] W fun e w' => ∃ b off cap, e = .returned (.slice (some ⟨b, off, none⟩) (nk + 1) cap) ∧ b < w'.heap.size ∧ (∀ (i : Nat) s, (statesK p nk rn)[i]? = some s → StC w' b (off + i * 8) s) ∧ Below W.heap.size W w') := fun W hb => by
        refine (hSt p _ _ _ nk rn W hp0 (HP.out.all hb) (by omega) (by omega)).mono ?_
        rintro e w' ⟨v, rfl, h1, h2⟩
        rcases h1 with ⟨h3, _⟩ | ⟨b, off, cap, rfl, _, h4, h5⟩
        · have := statesK_len p nk rn
          rw [h3] at this
          cases this
        · exact ⟨b, off, cap, by rw [statesK_len], h4, h5, h2⟩
      have HSb : Hid (∀ W, Below w.heap.size w W → Calls Tryz.prog 9 #[.agg #[.slice xa q.code.length xc, .int .i64 q.ticks, .slice ya q.spans.length yc, .slice za q.wires.length zc'], .int .i64 nk, .int .i64 rn] W fun e w' => ∃ b off cap, e = .returned (.slice (some ⟨b, off, none⟩) (nk + 1) cap) ∧ b < w'.heap.size ∧ (∀ (i : Nat) s, (statesK q nk rn)[i]? = some s → StC w' b (off + i * 8) s) ∧ Below W.heap.size W w') := fun W hb => by
        refine (hSt q _ _ _ nk rn W hq0 (HQ.out.all hb) (by omega) (by omega)).mono ?_
        rintro e w' ⟨v, rfl, h1, h2⟩
        rcases h1 with ⟨h3, _⟩ | ⟨b, off, cap, rfl, _, h4, h5⟩
        · have := statesK_len q nk rn
          rw [h3] at this
          cases this
        · exact ⟨b, off, cap, by rw [statesK_len], h4, h5, h2⟩
      clear h0 hd hPu hSt
      have q8 := HSa.out W5 hx8.below
      go_wp2_with (first
        | (go_at_call 9; refine q8.mono ?_; rintro e w8 ⟨ab, ao, ac, rfl, ha1, ha2, b8⟩; clear q8 d0 d1 d2 d3; have hx9 := hx8.step b8; obtain ⟨d0, d1, d2, d3⟩ := hx9.ds; have q9 := HSb.out w8 hx9.below)
        | (go_at_call 9; refine q9.mono ?_; rintro e w9 ⟨bb, bo, bc, rfl, hb1, hb2, b9⟩; clear q9))
      have hx10 := hx9.step b9
      have ha3 : ab < w9.heap.size := Nat.lt_of_lt_of_le ha1 b9.size
      have HA : Hid (∀ (i : Nat) s, (statesK p nk rn)[i]? = some s → StC w9 ab (ao + i * 8) s) := fun i s h => (ha2 i s h).block (b9.block ab ha1)
      have HB : Hid (∀ (i : Nat) s, (statesK q nk rn)[i]? = some s → StC w9 bb (bo + i * 8) s) := hb2
      have hla := statesK_len p nk rn
      have hlb := statesK_len q nk rn
      clear ha2 hb2 hx8 hx9 d0 d1 d2 d3 k0 k1 k2 k3
      go_loopw [15, 18] (fun s15 s18 wr => ∃ (j : Nat) (t : Int), j ≤ nk + 1 ∧ t = (j : Int) - 1 ∧ s18 = .int .i64 t ∧ s15 = .int .i64 (partAt ((statesK p nk rn).drop j) ((statesK q nk rn).drop j) j) ∧ Below w9.heap.size w9 wr) (fun _ s18 _ => (intOf s18 + 1).toNat)
      case atStart => exact ⟨nk + 1, nk, Nat.le_refl _, by omega, rfl, by rw [partAt_end (by omega)], Below.refl _ _⟩
      case round =>
        obtain ⟨j, t, hj, ht, rfl, rfl, hbw⟩ := hrel
        cases j with
        | zero =>
          obtain rfl : t = -1 := by omega
          clear ht hj
          have HX2 : Hid (likeAt p q nk rn = partAt (List.drop 0 (statesK p nk rn)) (List.drop 0 (statesK q nk rn)) 0) := HX.out
          go_wp2_with fail
          go_meet
          case rel => exact ⟨by rw [HX2.out], hx10.step hbw⟩
        | succ i =>
          obtain rfl : t = (i : Int) := by omega
          have hil : i < nk + 1 := by omega
          clear ht
          obtain ⟨s, hs⟩ : ∃ s, (statesK p nk rn)[i]? = some s := ⟨_, List.getElem?_eq_getElem (by omega)⟩
          obtain ⟨u, hu⟩ : ∃ u, (statesK q nk rn)[i]? = some u := ⟨_, List.getElem?_eq_getElem (by omega)⟩
          have HD : Hid (partAt ((statesK p nk rn).drop i) ((statesK q nk rn).drop i) i = if sameS s u = true then partAt ((statesK p nk rn).drop (i + 1)) ((statesK q nk rn).drop (i + 1)) (i + 1) else (i : Int)) := partAt_drop hs hu
          obtain ⟨s0, s1, s2, s3, s4, s5, s6, s7⟩ := (HA.out i s hs).block (hbw.block ab ha3)
          obtain ⟨t0, t1, t2, t3, t4, t5, t6, t7⟩ := (HB.out i u hu).block (hbw.block bb hb1)
          have hii : (i : Int) < ((nk + 1 : Nat) : Int) := by omega
          have hi0 : (0 : Int) ≤ (i : Int) := by omega
          have hnq := neq_st2 s u
          have hgd := guardSt
          clear hs hu
          generalize partAt ((statesK p nk rn).drop (i + 1)) ((statesK q nk rn).drop (i + 1)) (i + 1) = old at HD ⊢
          cases hss : sameS s u with
          | true =>
            rw [hss] at hnq HD
            clear hss
            go_wp2
            go_quiet (fail)
            go_wp2
            go_roundw
            case rel => exact ⟨i, (i : Int) - 1, by omega, rfl, by go_num, by rw [HD.out]; rfl, below_dN hbw _⟩
            case measure => simp [intOf]
          | false =>
            rw [hss] at hnq HD
            clear hss
            go_wp2
            go_quiet (fail)
            go_wp2
            go_roundw
            case rel => exact ⟨i, (i : Int) - 1, by omega, rfl, by go_num, by rw [HD.out]; rfl, below_dN hbw _⟩
            case measure => simp [intOf]
    · have hd : decide (g = 0) = false := decide_eq_false h0
      rw [hd]
      have HX : Hid (likeAt p q nn r = 0) := by show _ = _; unfold likeAt; rw [if_neg (by rw [HGg.out]; exact h0)]
      clear h0 hd
      go_wp2_with fail
      go_meet
      case rel => exact ⟨by rw [HX.out], hx8⟩
  case rest =>
  clear hx8 k0 k1 k2 k3 d0 d1 d2 d3
  obtain ⟨rfl, hx9⟩ := hcut
  generalize wc = W6 at *
  have HSm : Hid (∀ W, Below w.heap.size w W → Calls Tryz.prog 10 #[.agg #[.slice ca p.code.length cc, .int .i64 p.ticks, .slice sa p.spans.length sc, .slice wa p.wires.length wc'], .agg #[.slice xa q.code.length xc, .int .i64 q.ticks, .slice ya q.spans.length yc, .slice za q.wires.length zc'], .int .i64 nn, .int .i64 r] W fun e w' => e = .returned (.tuple #[.int .i64 (likeAt p q nn r), wErr g]) ∧ Below W.heap.size W w') := fun W hb => by
    have := S p q _ _ _ _ _ _ nn r W (HG.out W hb) (HP.out.all hb) (HQ.out.all hb)
    rw [HGg.out] at this
    exact this
  have HEg : Hid (∀ W, Below w.heap.size w W → Calls Tryz.prog 7 #[wErr g, .int .i64 g] W fun r w' => r = .returned (.bool true) ∧ Below W.heap.size W w') := fun W hb => HE.out g W hb
  obtain ⟨ev2, hev⟩ : ∃ v, v = wErr g := ⟨_, rfl⟩
  rw [← hev] at HSm HEg
  clear hev
  generalize likeAt p q nn r = t9 at HSm ⊢
  obtain ⟨k0, k1, k2, k3⟩ := hx9.cs
  obtain ⟨d0, d1, d2, d3⟩ := hx9.ds
  have q9 := HSm.out W6 hx9.below
  go_wp2_with (first
    | (go_at_call 10; refine q9.mono ?_; rintro e w10 ⟨rfl, b10⟩; clear q9; have hx10 := hx9.step b10; have q10 := HEg.out _ hx10.below)
    | (go_at_call 7; refine q10.mono ?_; rintro e w11 ⟨rfl, b11⟩; clear q10; have hx11 := hx10.step b11))
  go_ret
  exact ⟨rfl, hx11.below⟩
end Go.Proofs.YteoemcekkcnplaeGreatDoor
