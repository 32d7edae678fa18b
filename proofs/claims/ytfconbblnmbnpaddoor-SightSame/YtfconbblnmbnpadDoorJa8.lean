/-
  HdRow, KerTime, KerWire, KTurnM, KerGT, POpen, WClone, FlowOwn, IntsL, StEq, KTurns0, WSame, KTurns, WHeld, DHeld, GWire, KerGW: joined into one text.
-/
import Derived.Test.YtfconbblnmbnpadDoorJa1
import Derived.Test.YtfconbblnmbnpadDoorKerG
import Derived.Lib.SmallJoins
import Derived.Deep.Slices
import Derived.Test.YtfconbblnmbnpadDoorJa6
import Derived.Laws.StructEq
import Derived.RangeFuncRecord
import Derived.Test.YtfconbblnmbnpadDoorJa3
import Derived.Deep.CutRange
import Derived.Deep.RegionWith
import Derived.Deep.RegionHeld3
import Derived.BigQuiet
import Derived.RangeFuncNested
import Derived.Test.YtfconbblnmbnpadDoorJa7
namespace Go.Proofs.YtfconbblnmbnpadDoor
open Go.RowKit

/-- What is held, as cells: the numbers lie where 'u' says. -/
def hdCells (l : List (Value × Int)) : List Value := l.flatMap fun x => [x.1, .int .i64 x.2]
theorem hdCells_snoc (l : List (Value × Int)) (x : Value × Int) : hdCells (l ++ [x]) = hdCells l ++ [x.1, .int .i64 x.2] := by simp [hdCells]
theorem hdCells_at : ∀ (l : List (Value × Int)) (i : Nat) (x : Value × Int), l[i]? = some x → (hdCells l)[i * 2]? = some x.1 ∧ (hdCells l)[i * 2 + 1]? = some (.int .i64 x.2)
  | [], i, x, h => by simp at h
  | y :: l, 0, x, h => by simp at h; subst h; simp [hdCells]
  | y :: l, i + 1, x, h => by
    have h1 := hdCells_at l i x (by simpa using h)
    have e : ∀ j, (hdCells (y :: l))[(i + 1) * 2 + j]? = (hdCells l)[i * 2 + j]? := fun j => by
      show ([y.1, .int .i64 y.2] ++ hdCells l)[(i + 1) * 2 + j]? = _
      rw [List.getElem?_append_right (by simp; omega)]
      congr 1
      simp
      omega
    exact ⟨(e 0).trans h1.1, (e 1).trans h1.2⟩
theorem infoHd : (Tryd.prog.info? 58).map (fun i => (i.zero, i.size, i.bytes)) = some (some (.agg #[.slice none 0 0, .int .i64 0]), 2, 32) := by kernel_rfl
theorem hd_new {w : World} {k : Nat} (hk : k = w.heap.size) (x y : Value) (t : TypeId) : ∀ j u, [x, y][j]? = some u → (w.alloc (.cells #[x, y] t)).cell? ((⟨k, 0, none⟩ : Addr).add j) = some u := by
  intro j u hj
  subst hk
  rw [Addr.add_lit, Nat.zero_add]
  match j, hj with
  | 0, hj => simp at hj; subst hj; simp
  | 1, hj => simp at hj; subst hj; simp
  | j + 2, hj => simp at hj
end Go.Proofs.YtfconbblnmbnpadDoor
namespace Go.Proofs.YtfconbblnmbnpadDoor
open Go.RowKit

/-- What time it is. -/
def KerTime {G : World → Prop} (C : KerC G) : Prop := ∀ {w0 W p vc vs vw k kb F}, C.K w0 W p vc vs vw k kb F → Calls Tryd.prog 13 #[.pointer (some ⟨kb, 0, none⟩)] W fun e w' => e = .returned (.int .i64 k.time) ∧ ∃ n, w' = W.drewN n
end Go.Proofs.YtfconbblnmbnpadDoor
namespace Go.Proofs.YtfconbblnmbnpadDoor
open Go.RowKit

/-- What a wire holds: what can be read lies in memory of its own. -/
def KerWire {G : World → Prop} (C : KerC G) : Prop := ∀ {w0 W p vc vs vw k kb F} (i : Int), C.K w0 W p vc vs vw k kb F → KOk p k → plchk p = 0 → Calls Tryd.prog 15 #[.pointer (some ⟨kb, 0, none⟩), .int .i64 i] W fun e w' => ∃ u, e = .returned (.tuple #[.agg #[u, .int .i64 (lineK k i).ls], wErr (errB (noLine k i))]) ∧ Rd w' u (lineK k i).xs ∧ (∀ g, u.ownBlock = some g → W.heap.size ≤ g ∧ g < w'.heap.size) ∧ Below W.heap.size W w'
end Go.Proofs.YtfconbblnmbnpadDoor
namespace Go.Proofs.YtfconbblnmbnpadDoor

/-- A kernel behind so many ticks. -/
def kT (p : PD) : Nat → KD
  | 0 => newK p
  | t + 1 => (tickK p p.spans (kT p t)).1
theorem kT_time (p : PD) : ∀ t, (kT p t).time = t
  | 0 => rfl
  | t + 1 => by
    show (tickK p p.spans (kT p t)).1.time = _
    rw [tick_time, kT_time p t]
    omega
theorem kT_ok {p : PD} (hp : plchk p = 0) : ∀ t, KOk p (kT p t)
  | 0 => new_ok hp
  | t + 1 => tick_ok hp (kT_ok hp t)
/-- Whose turn it is. -/
def whoK (p : PD) (k : KD) : Int := hold p.spans (k.time % p.ticks)
theorem tick_told (p : PD) (k : KD) : (tickK p p.spans k).2.1 = k.time ∧ (tickK p p.spans k).2.2.1 = whoK p k := by
  unfold tickK whoK
  simp only
  split
  · exact ⟨rfl, rfl⟩
  · exact ⟨rfl, rfl⟩
/-- No room but the one whose turn it is. -/
theorem tick_room {p : PD} {k : KD} {r : Nat} (hr : (r : Int) ≠ whoK p k) : (tickK p p.spans k).1.rooms[r]? = k.rooms[r]? := by
  unfold whoK at hr
  unfold tickK
  simp only
  split
  · rfl
  · rename_i h
    show (k.rooms.set _ _)[r]? = _
    rw [List.getElem?_set_ne (by omega)]
/-- No wire but those of it. -/
theorem tick_line {p : PD} {k : KD} (hp : plchk p = 0) (hk : KOk p k) {i : Nat} {x : W4} (hx : p.wires[i]? = some x) (h1 : x.1 ≠ whoK p k) (h2 : x.2.1 ≠ whoK p k) : (tickK p p.spans k).1.lines[i]? = k.lines[i]? := by
  have hw := (who_room hp (k.time % p.ticks)).2
  unfold whoK at h1 h2
  unfold tickK
  simp only
  split
  · rfl
  · rename_i h
    obtain ⟨rn, hrn⟩ : ∃ n : Nat, hold p.spans (k.time % p.ticks) = n := ⟨(hold p.spans (k.time % p.ticks)).toNat, by omega⟩
    rw [hrn] at h1 h2 hw ⊢
    have hlt : rn < p.code.length := by simpa using hw (by omega)
    obtain ⟨c, s, o, ht⟩ := turn_of hp hk hlt
    obtain ⟨e1, e2, e3⟩ := ht.at
    rw [Int.toNat_natCast]
    unfold turnK
    simp only [e1, e2, e3]
    have hop := op_wire hp ht.hc (List.mem_of_getElem? ht.ho)
    have hT : (linesT k o s)[i]? = k.lines[i]? := by
      unfold linesT
      split
      · rename_i htk
        have h9 : o.1 = 9 := by
          unfold takesB at htk
          simp only [Bool.and_eq_true, decide_eq_true_eq] at htk
          exact htk.2
        obtain ⟨y, hy, hy2⟩ := hop.2 h9
        refine List.getElem?_set_ne (fun e => ?_)
        rw [e, hx] at hy
        obtain rfl := Option.some.inj hy
        exact h2 hy2
      · rfl
    rw [← hT]
    unfold linesS
    split
    · rename_i hs
      have h8 := ((sendK_range ht).2.2 hs).1
      obtain ⟨y, hy, hy2⟩ := hop.1 h8
      refine List.getElem?_set_ne (fun e => ?_)
      rw [e, hx] at hy
      obtain rfl := Option.some.inj hy
      exact h1 hy2
    · rfl
end Go.Proofs.YtfconbblnmbnpadDoor
namespace Go.Proofs.YtfconbblnmbnpadDoor
open Go.RowKit

set_option maxRecDepth 100000 in
set_option maxHeartbeats 1000000 in
theorem gtime_any (p : PD) (k : KD) (kb base : Nat) (a : GW) (w : World) (h : GK w base p k kb a) :
    Calls Tryd.prog 13 #[.pointer (some ⟨kb, 0, none⟩)] w fun e w' => e = .returned (.int .i64 k.time) ∧ ∃ n, w' = w.drewN n := by
  have c5 := h.c5
  clear h
  go_enter Tryd.func13, Tryd.ntmps13
  go_wp2
  go_ret
  exact ⟨rfl, 0, rfl⟩
theorem gker_time {G : World → Prop} (hG : ∀ w, G w → Forms w) (hall : ∀ w w', G w → Below w.heap.size w w' → G w') : KerTime (gker hG hall) := fun {_ W p _ _ _ k kb _} ⟨a, h, _, _⟩ => gtime_any p k kb _ a W h
end Go.Proofs.YtfconbblnmbnpadDoor
namespace Go.Proofs.YtfconbblnmbnpadDoor
open Go.ChangeShapes Go.WideShapes Go.ChangeAt Go.WideElems Go.RowKit Go.Deep

theorem pk_spot {W : World} {a : Addr} {v : Value} (h : W.cell? a = some v) : a = ⟨a.block, a.off, none⟩ ∧ a.block < W.heap.size := by
  obtain ⟨b, o, s⟩ := a
  unfold World.cell? at h
  simp only at h
  cases hb : W.heap[b]? with
  | none => rw [hb] at h; cases h
  | some x =>
    rw [hb] at h
    refine ⟨?_, (Array.getElem?_eq_some_iff.1 hb).1⟩
    cases x <;> simp at h
    cases s with
    | none => rfl
    | some s => simp at h
theorem pk_lt {α : Type} [Inhabited α] {p : Nat → α → Prop} {n : Nat} (h : ∀ i, i < n → ∃ x, p i x) : ∃ f : Nat → α, ∀ i, i < n → p i (f i) := by
  refine ⟨fun i => if hi : i < n then (h i hi).choose else default, fun i hi => ?_⟩
  simp only [hi, dif_pos]
  exact (h i hi).choose_spec
/-- A slice read as data, at the level of its cell. -/
theorem pk_slice {α : Type} [Inhabited α] {H : Type} {enc : TypeId × Value → H} {P : Program} {W : World} {base : Nat} {sp : Nat → Bool} {held : Bool} {fuel : Nat} {cs : List Value} {x : DataW H × List MemPlace} {t e : TypeId} {k : Nat}
    (ht : P.underlying t = some (.slice e)) (hk : P.cellsOf e = k) (hk0 : 0 < k) (R : List Value → α → Prop)
    (hel : ∀ (n : Nat) (cs : List Value) (x : DataW H × List MemPlace), DataW.trod enc P W base sp held n e cs = some x → ∃ o, R cs o)
    (h : DataW.trod enc P W base sp held fuel t cs = some x) :
    ∃ a len cap, cs = [.slice a len cap] ∧ (len = 0 ∨ ∃ b off, a = some ⟨b, off, none⟩ ∧ len ≤ cap ∧ b < W.heap.size ∧ ∃ l : List α, l.length = len ∧ ∀ i o, l[i]? = some o → ∃ us, us.length = k ∧ R us o ∧ ∀ j, j < k → W.cell? ⟨b, off + i * k + j, none⟩ = us[j]?) := by
  rcases open_slice ht h with ⟨rfl, _⟩ | ⟨a, len, cap, m, n, D, Pl, rfl, _, hl, _, hm, _, he⟩
  · exact ⟨none, 0, 0, rfl, Or.inl rfl⟩
  · refine ⟨some a, len, cap, rfl, ?_⟩
    have hlm : len ≤ m := by rw [hm]; split <;> omega
    by_cases h0 : len = 0
    · exact Or.inl h0
    · rw [hk] at he
      obtain ⟨F, hF⟩ := pk_lt (α := α × List Value) (p := fun i o => o.2.length = k ∧ R o.2 o.1 ∧ ∀ j, j < k → W.cell? ((a.add (i * k)).add j) = o.2[j]?) (n := len) (fun i hi => by
        obtain ⟨us, h1, h2⟩ := he i (by omega)
        obtain ⟨o, ho⟩ := hel _ _ _ h2
        obtain ⟨_, h3, h4⟩ := World.cells?_some h1
        exact ⟨(o, us), h3, ho, h4⟩)
      obtain ⟨l0, _, c0⟩ := hF 0 (by omega)
      have hz := c0 0 hk0
      rw [show (a.add (0 * k)).add 0 = a from by simp [Addr.add], List.getElem?_eq_getElem (by omega)] at hz
      obtain ⟨ha, hlt⟩ := pk_spot hz
      refine Or.inr ⟨a.block, a.off, by rw [← ha], hl, hlt, (List.range len).map (fun i => (F i).1), by simp, fun i o ho => ?_⟩
      have hi : i < len := by
        have := (List.getElem?_eq_some_iff.1 ho).1
        simpa using this
      have hoi : (F i).1 = o := by simpa [hi] using ho
      obtain ⟨h1, h2, h3⟩ := hF i hi
      refine ⟨(F i).2, h1, hoi ▸ h2, fun j hj => ?_⟩
      have := h3 j hj
      rw [ha] at this
      simp only [Addr.add_lit] at this
      exact this
theorem pcInt : Tryd.prog.cellsOf 3 = 1 := by kernel_rfl
theorem pcOp : Tryd.prog.cellsOf 25 = 3 := by kernel_rfl
theorem pcSpan : Tryd.prog.cellsOf 42 = 3 := by kernel_rfl
theorem pcWire : Tryd.prog.cellsOf 23 = 4 := by kernel_rfl
theorem pcOps : Tryd.prog.cellsOf 26 = 1 := by kernel_rfl
section
variable {H : Type} {enc : TypeId × Value → H} {W : World} {base : Nat} {sp : Nat → Bool} {held : Bool}
set_option maxRecDepth 100000 in
theorem pk_op (n : Nat) (cs : List Value) (x : DataW H × List MemPlace) (h : DataW.trod enc Tryd.prog W base sp held n 25 cs = some x) : ∃ o : O3, cs = [.int .i64 o.1, .int .i64 o.2.1, .int .i64 o.2.2] := by
  obtain ⟨y0, y1, y2, n, _, hl, h0, h1, h2⟩ := trod_struct3 Tryd.underlying25 h
  rw [pcOp] at hl
  match cs, hl with
  | [c0, c1, c2], _ =>
    simp only [pcInt] at h0 h1 h2
    simp at h0 h1 h2
    obtain ⟨n, e0, _, _⟩ := DataW.trod_int Tryd.underlying3 h0
    obtain ⟨a, e1, _, _⟩ := DataW.trod_int Tryd.underlying3 h1
    obtain ⟨b, e2, _, _⟩ := DataW.trod_int Tryd.underlying3 h2
    simp only [List.cons.injEq, and_true] at e0 e1 e2
    subst e0; subst e1; subst e2
    exact ⟨(n, a, b), rfl⟩
set_option maxRecDepth 100000 in
theorem pk_span (n : Nat) (cs : List Value) (x : DataW H × List MemPlace) (h : DataW.trod enc Tryd.prog W base sp held n 42 cs = some x) : ∃ o : S3, cs = [.int .i64 o.1, .int .i64 o.2.1, .int .i64 o.2.2] := by
  obtain ⟨y0, y1, y2, n, _, hl, h0, h1, h2⟩ := trod_struct3 Tryd.underlying42 h
  rw [pcSpan] at hl
  match cs, hl with
  | [c0, c1, c2], _ =>
    simp only [pcInt] at h0 h1 h2
    simp at h0 h1 h2
    obtain ⟨n, e0, _, _⟩ := DataW.trod_int Tryd.underlying3 h0
    obtain ⟨a, e1, _, _⟩ := DataW.trod_int Tryd.underlying3 h1
    obtain ⟨b, e2, _, _⟩ := DataW.trod_int Tryd.underlying3 h2
    simp only [List.cons.injEq, and_true] at e0 e1 e2
    subst e0; subst e1; subst e2
    exact ⟨(n, a, b), rfl⟩
set_option maxRecDepth 100000 in
theorem pk_wire (n : Nat) (cs : List Value) (x : DataW H × List MemPlace) (h : DataW.trod enc Tryd.prog W base sp held n 23 cs = some x) : ∃ o : W4, cs = [.int .i64 o.1, .int .i64 o.2.1, .int .i64 o.2.2.1, .int .i64 o.2.2.2] := by
  obtain ⟨y0, y1, y2, y3, n, _, hl, h0, h1, h2, h3⟩ := Joins.trod_struct4 Tryd.underlying23 h
  rw [pcWire] at hl
  match cs, hl with
  | [c0, c1, c2, c3], _ =>
    simp only [pcInt] at h0 h1 h2 h3
    simp at h0 h1 h2 h3
    obtain ⟨n, e0, _, _⟩ := DataW.trod_int Tryd.underlying3 h0
    obtain ⟨a, e1, _, _⟩ := DataW.trod_int Tryd.underlying3 h1
    obtain ⟨b, e2, _, _⟩ := DataW.trod_int Tryd.underlying3 h2
    obtain ⟨c, e3, _, _⟩ := DataW.trod_int Tryd.underlying3 h3
    simp only [List.cons.injEq, and_true] at e0 e1 e2 e3
    subst e0; subst e1; subst e2; subst e3
    exact ⟨(n, a, b, c), rfl⟩
theorem pk_ops (n : Nat) (cs : List Value) (x : DataW H × List MemPlace) (h : DataW.trod enc Tryd.prog W base sp held n 26 cs = some x) : ∃ l : List O3, ∃ u, cs = [u] ∧ Ops W u l := by
  obtain ⟨a, len, cap, rfl, hr⟩ := pk_slice (α := O3) Tryd.underlying26 pcOp (by decide) (fun cs o => cs = [.int .i64 o.1, .int .i64 o.2.1, .int .i64 o.2.2]) pk_op h
  rcases hr with rfl | ⟨b, off, rfl, _, hlt, l, rfl, hl⟩
  · exact ⟨[], _, rfl, Or.inl ⟨rfl, _, _, rfl⟩⟩
  · refine ⟨l, _, rfl, Or.inr ⟨b, off, cap, rfl, hlt, fun i o ho => ?_⟩⟩
    obtain ⟨us, _, rfl, hc⟩ := hl i o ho
    exact ⟨hc 0 (by omega), hc 1 (by omega), hc 2 (by omega)⟩
theorem pk_sps (n : Nat) (cs : List Value) (x : DataW H × List MemPlace) (h : DataW.trod enc Tryd.prog W base sp held n 29 cs = some x) : ∃ l : List S3, ∃ u, cs = [u] ∧ Sps W u l := by
  obtain ⟨a, len, cap, rfl, hr⟩ := pk_slice (α := S3) Tryd.underlying29 pcSpan (by decide) (fun cs o => cs = [.int .i64 o.1, .int .i64 o.2.1, .int .i64 o.2.2]) pk_span h
  rcases hr with rfl | ⟨b, off, rfl, hcap, hlt, l, rfl, hl⟩
  · exact ⟨[], _, rfl, Or.inl ⟨rfl, _, _, rfl⟩⟩
  · refine ⟨l, _, rfl, Or.inr ⟨b, off, cap, rfl, hcap, hlt, fun i o ho => ?_⟩⟩
    obtain ⟨us, _, rfl, hc⟩ := hl i o ho
    exact ⟨hc 0 (by omega), hc 1 (by omega), hc 2 (by omega)⟩
theorem pk_wrs (n : Nat) (cs : List Value) (x : DataW H × List MemPlace) (h : DataW.trod enc Tryd.prog W base sp held n 28 cs = some x) : ∃ l : List W4, ∃ u, cs = [u] ∧ Wrs W u l := by
  obtain ⟨a, len, cap, rfl, hr⟩ := pk_slice (α := W4) Tryd.underlying28 pcWire (by decide) (fun cs o => cs = [.int .i64 o.1, .int .i64 o.2.1, .int .i64 o.2.2.1, .int .i64 o.2.2.2]) pk_wire h
  rcases hr with rfl | ⟨b, off, rfl, hcap, hlt, l, rfl, hl⟩
  · exact ⟨[], _, rfl, Or.inl ⟨rfl, _, _, rfl⟩⟩
  · refine ⟨l, _, rfl, Or.inr ⟨b, off, cap, rfl, hcap, hlt, fun i o ho => ?_⟩⟩
    obtain ⟨us, _, rfl, hc⟩ := hl i o ho
    exact ⟨hc 0 (by omega), hc 1 (by omega), hc 2 (by omega), hc 3 (by omega)⟩
theorem pk_cds (n : Nat) (cs : List Value) (x : DataW H × List MemPlace) (h : DataW.trod enc Tryd.prog W base sp held n 27 cs = some x) : ∃ l : List (List O3), ∃ u, cs = [u] ∧ Cds W u l := by
  obtain ⟨a, len, cap, rfl, hr⟩ := pk_slice (α := List O3) Tryd.underlying27 pcOps (by decide) (fun cs l => ∃ u, cs = [u] ∧ Ops W u l) pk_ops h
  rcases hr with rfl | ⟨b, off, rfl, hcap, hlt, l, rfl, hl⟩
  · exact ⟨[], _, rfl, Or.inl ⟨rfl, _, _, rfl⟩⟩
  · refine ⟨l, _, rfl, Or.inr ⟨b, off, cap, rfl, hcap, hlt, fun i c hc => ?_⟩⟩
    obtain ⟨us, _, ⟨u, rfl, hu⟩, hc⟩ := hl i c hc
    have := hc 0 (by omega)
    exact ⟨u, by simpa using this, hu⟩
set_option maxRecDepth 100000 in
/-- A plan that came in. -/
theorem open_plan {b0 : Nat} {r : Reach} {v : Value} {d : DataW H} {p : List MemPlace} (hv : Value.okWide Tryd.prog W r b0 31 v)
    (h : DataW.Trod enc Tryd.prog W base sp held 31 v d p) : ∃ (vc vs vw : Value) (p : PD), v = plV vc p.ticks vs vw ∧ Pln W vc vs vw p := by
  obtain ⟨v0, v1, v2, v3, y0, y1, y2, y3, m, rfl, _, _, h0, h1, h2, h3⟩ := Joins.open_agg4 Tryd.underlying31 (by kernel_rfl) (by kernel_rfl) hv h
  obtain ⟨cs, u0, e0, g0⟩ := pk_cds _ _ _ h0
  obtain ⟨n, e1, _, _⟩ := DataW.trod_int Tryd.underlying3 h1
  obtain ⟨ss, u2, e2, g2⟩ := pk_sps _ _ _ h2
  obtain ⟨ws, u3, e3, g3⟩ := pk_wrs _ _ _ h3
  simp only [List.cons.injEq, and_true] at e0 e1 e2 e3
  subst e0; subst e1; subst e2; subst e3
  exact ⟨_, _, _, ⟨cs, n, ss, ws⟩, rfl, g0, g2, g3⟩
end
end Go.Proofs.YtfconbblnmbnpadDoor
namespace Go.Proofs.YtfconbblnmbnpadDoor
open Go.RowKit

set_option maxRecDepth 100000 in
set_option maxHeartbeats 4000000 in
theorem clone_nil (w : World) : Calls Tryd.prog 55 #[.slice none 0 0] w fun e w' => e = .returned (.slice none 0 0) ∧ w' = w := by
  have q : ∀ (w : World) (a : Option Addr) (n c n' c' : Nat), (binOp .eql 56 (.slice a n c) (.slice none n' c')).run Tryd.prog w = .ok (.bool a.isNone) w := fun w a n c n' c' => Lib.run_eql_slice_nil w _ _ a n c n' c' Tryd.underlying56
  go_enter Tryd.func55, Tryd.ntmps55
  go_wp2
  go_ret
  exact ⟨rfl, rfl⟩
set_option maxRecDepth 100000 in
set_option maxHeartbeats 4000000 in
theorem clone_some (g cap : Nat) (xs : List Int) (w : World) (hx : xs.length ≤ 1000000) (hc : ∀ i x, (ints xs)[i]? = some x → w.cell? ⟨g, i, none⟩ = some x) :
    Calls Tryd.prog 55 #[.slice (some ⟨g, 0, none⟩) xs.length cap] w fun e w' => ∃ v', e = .returned v' ∧ w'.ownsRow w.heap.size 3 1 v' xs.length (ints xs) ∧ Below w.heap.size w w' := by
  obtain ⟨ii, hi, hz0, hz1, hz2⟩ := info_parts infoInt
  have q : ∀ (w : World) (a : Option Addr) (n c n' c' : Nat), (binOp .eql 56 (.slice a n c) (.slice none n' c')).run Tryd.prog w = .ok (.bool a.isNone) w := fun w a n c n' c' => Lib.run_eql_slice_nil w _ _ a n c n' c' Tryd.underlying56
  have HC : Hid (∀ i x, (ints xs)[i]? = some x → w.cell? ⟨g, i, none⟩ = some x) := hc
  clear hc
  go_enter Tryd.func55, Tryd.ntmps55
  go_wp2_with (at_builtin; refine wpList_append_at _ rfl _ _ 56 rfl w.heap.size 3 ii (.int .i64 0) 1 8 Tryd.underlying56 hi hz0 hz1 hz2 rfl (by decide) _ _ _ rfl (World.ownsRow_made w #[] 0 (Nat.le_refl _) (Nat.zero_le _) rfl) ⟨g, 0, none⟩ xs.length cap (ints xs) rfl ?c0A ?c1A ?c2A ?c3A ?c4A ?c5A ?_)
  case c0A => rw [ints_len, Nat.mul_one]
  case c1A =>
    intro j u hj
    have h := HC.out j u hj
    rw [Addr.add_lit, Nat.zero_add]
    exact (((Below.refl _ w).alloc (Nat.le_refl _) _).cell (p := ⟨g, j, none⟩) (wlt h)).trans h
  case c2A => intro u hu; obtain ⟨x, _, rfl⟩ := List.mem_map.1 hu; rfl
  case c3A => unfold maxLen; omega
  case c4A => omega
  case c5A => simp
  intro v1 w2 own1 hg1 hat1
  clear q
  go_wp2
  go_ret
  refine ⟨v1, rfl, by simpa using own1, ((Below.refl _ w).alloc (Nat.le_refl _) _).grown hg1 (by simp) (by intro k hk; simp [Value.ownBlock] at hk; omega)⟩
end Go.Proofs.YtfconbblnmbnpadDoor
namespace Go.Proofs.YtfconbblnmbnpadDoor
open Go.RowKit

/-- The cells of wires, one behind the other. -/
def wrCells (l : List W4) : List Value := l.flatMap fun o => [.int .i64 o.1, .int .i64 o.2.1, .int .i64 o.2.2.1, .int .i64 o.2.2.2]
theorem wrCells_snoc (l : List W4) (o : W4) : wrCells (l ++ [o]) = wrCells l ++ [.int .i64 o.1, .int .i64 o.2.1, .int .i64 o.2.2.1, .int .i64 o.2.2.2] := by simp [wrCells]
theorem wrCells_len : ∀ (l : List W4), (wrCells l).length = l.length * 4
  | [] => rfl
  | x :: l => by
    have := wrCells_len l
    have e : wrCells (x :: l) = [.int .i64 x.1, .int .i64 x.2.1, .int .i64 x.2.2.1, .int .i64 x.2.2.2] ++ wrCells l := by simp [wrCells]
    rw [e, List.length_append, this]
    simp
    omega
theorem wrCells_one (l : List W4) : ∀ u ∈ wrCells l, u.oneCell' = true := by
  intro u hu
  simp only [wrCells, List.mem_flatMap] at hu
  obtain ⟨o, _, hu⟩ := hu
  simp at hu
  rcases hu with rfl | rfl | rfl | rfl <;> rfl
theorem wrCells_at : ∀ (l : List W4) (i : Nat) (o : W4), l[i]? = some o → (wrCells l)[i * 4]? = some (.int .i64 o.1) ∧ (wrCells l)[i * 4 + 1]? = some (.int .i64 o.2.1) ∧ (wrCells l)[i * 4 + 2]? = some (.int .i64 o.2.2.1) ∧ (wrCells l)[i * 4 + 3]? = some (.int .i64 o.2.2.2)
  | [], i, o, h => by simp at h
  | x :: l, 0, o, h => by
    simp at h
    subst h
    simp [wrCells]
  | x :: l, i + 1, o, h => by
    have := wrCells_at l i o (by simpa using h)
    have e : wrCells (x :: l) = [.int .i64 x.1, .int .i64 x.2.1, .int .i64 x.2.2.1, .int .i64 x.2.2.2] ++ wrCells l := by simp [wrCells]
    rw [e]
    refine ⟨?_, ?_, ?_, ?_⟩
    · rw [List.getElem?_append_right (by simp; omega)]
      simpa [show (i + 1) * 4 - 4 = i * 4 by omega] using this.1
    · rw [List.getElem?_append_right (by simp; omega)]
      simpa [show (i + 1) * 4 + 1 - 4 = i * 4 + 1 by omega] using this.2.1
    · rw [List.getElem?_append_right (by simp; omega)]
      simpa [show (i + 1) * 4 + 2 - 4 = i * 4 + 2 by omega] using this.2.2.1
    · rw [List.getElem?_append_right (by simp; omega)]
      simpa [show (i + 1) * 4 + 3 - 4 = i * 4 + 3 by omega] using this.2.2.2
theorem wrs_of_own {w : World} {base : Nat} {v : Value} {l : List W4} (h : w.ownsRow base 23 4 v l.length (wrCells l)) : Wrs w v l := by
  have hl := h.lt
  have hcs := @World.ownsRow.cells _ _ _ _ _ _ _ h
  rcases h.2 with ⟨rfl, h0⟩ | ⟨g, cap, cur, rfl, _, _, hcap, _⟩
  · exact Or.inl ⟨List.eq_nil_of_length_eq_zero h0, _, _, rfl⟩
  · have hat : ∀ j u, (wrCells l)[j]? = some u → w.cell? ⟨g, j, none⟩ = some u := fun j u hu => by
      have := hcs rfl j u hu
      unfold Addr.add at this
      split at this
      · rename_i h0; subst h0; exact this
      · simpa using this
    refine Or.inr ⟨g, 0, cap, rfl, hcap, (hl g rfl).2, fun i o ho => ?_⟩
    obtain ⟨h1, h2, h3, h4⟩ := wrCells_at l i o ho
    exact ⟨by simpa using hat _ _ h1, by simpa using hat _ _ h2, by simpa using hat _ _ h3, by simpa using hat _ _ h4⟩
theorem infoWr : (Tryd.prog.info? 23).map (fun i => (i.zero, i.size, i.bytes)) = some (some (.agg #[.int .i64 0, .int .i64 0, .int .i64 0, .int .i64 0]), 4, 32) := by kernel_rfl
theorem wr_new {w : World} {k : Nat} (hk : k = w.heap.size) (x y z u : Value) (t : TypeId) : ∀ j q, [x, y, z, u][j]? = some q → (w.alloc (.cells #[x, y, z, u] t)).cell? ((⟨k, 0, none⟩ : Addr).add j) = some q := by
  subst hk
  intro j q hj
  match j, hj with
  | 0, hj => simp at hj; subst hj; simp [Addr.add]
  | 1, hj => simp at hj; subst hj; simp [Addr.add]
  | 2, hj => simp at hj; subst hj; simp [Addr.add]
  | 3, hj => simp at hj; subst hj; simp [Addr.add]
theorem four_one (a b c d : Int) : ∀ u ∈ [Value.int .i64 a, .int .i64 b, .int .i64 c, .int .i64 d], u.oneCell' = true := by
  intro u hu
  simp at hu
  rcases hu with rfl | rfl | rfl | rfl <;> rfl
theorem own4_form {w : World} {base : Nat} {e : TypeId} {size : Nat} {v : Value} {n : Nat} {xs : List Value} (R : w.ownsRow base e size v n xs) : ∃ g cap, v = .slice g n cap := by
  rcases R.2 with ⟨h, h0⟩ | ⟨g, cap, cur, h, _⟩
  · exact ⟨_, _, by rw [h0]; exact h⟩
  · exact ⟨_, _, h⟩
end Go.Proofs.YtfconbblnmbnpadDoor
namespace Go.Proofs.YtfconbblnmbnpadDoor
open Go.RowKit
set_option maxRecDepth 1000000 in
set_option maxHeartbeats 4000000 in
theorem wints_some (zs : List Int) (a ao b bo : Nat) (ac bc : Nat) (w : World) (ha : a < w.heap.size) (hb : b < w.heap.size) (hl : zs.length ≤ 1000000)
    (hca : ∀ (i : Nat) z, zs[i]? = some z → w.cell? ⟨a, ao + i, none⟩ = some (.int .i64 z)) (hcb : ∀ (i : Nat) z, zs[i]? = some z → w.cell? ⟨b, bo + i, none⟩ = some (.int .i64 z)) :
    Calls Tryd.prog 38 #[.slice (some ⟨a, ao, none⟩) zs.length ac, .slice (some ⟨b, bo, none⟩) zs.length bc] w fun e w' => e = .returned (.bool true) ∧ Below w.heap.size w w' := by
  go_enter Tryd.func38, Tryd.ntmps38
  go_wp2
  go_loopw [5] (fun i wr => ∃ k : Nat, k ≤ zs.length ∧ i = .int .i64 k ∧ Below w.heap.size w wr) (fun i _ => zs.length - (intOf i).toNat)
  case atStart => exact ⟨0, Nat.zero_le _, rfl, Below.refl _ _⟩
  case round =>
    obtain ⟨k, hk, rfl, hbw⟩ := hrel
    by_cases hkl : k < zs.length
    · obtain ⟨z, hz⟩ : ∃ z, zs[k]? = some z := ⟨zs[k], List.getElem?_eq_getElem hkl⟩
      have c0 := (hbw.cell (p := ⟨a, ao + k, none⟩) ha).trans (hca k z hz)
      have c1 := (hbw.cell (p := ⟨b, bo + k, none⟩) hb).trans (hcb k z hz)
      clear hz
      have hki : (k : Int) < (zs.length : Int) := by omega
      go_wp2
      go_quiet (fail)
      go_wp2
      go_roundw
      case rel => exact ⟨k + 1, by omega, by go_num, below_dN hbw _⟩
      case measure => simp [intOf]; omega
    · go_wp2
      go_ret
      exact ⟨rfl, hbw⟩
set_option maxRecDepth 1000000 in
set_option maxHeartbeats 4000000 in
theorem wints_nil (a b : Option Addr) (ac bc : Nat) (w : World) :
    Calls Tryd.prog 38 #[.slice a 0 ac, .slice b 0 bc] w fun e w' => e = .returned (.bool true) ∧ Below w.heap.size w w' := by
  go_enter Tryd.func38, Tryd.ntmps38
  go_wp2
  refine wp_loop_rounds 1 ?_
  rw [rounds_succ]
  go_wp2
  go_ret
  exact ⟨rfl, Below.refl _ _⟩
theorem wints_any (va vb : Value) (zs : List Int) (w : World) (ha : Rd w va zs) (hb : Rd w vb zs) (hl : zs.length ≤ 1000000) :
    Calls Tryd.prog 38 #[va, vb] w fun e w' => e = .returned (.bool true) ∧ Below w.heap.size w w' := by
  rcases ha with ⟨rfl, ao, ac, rfl⟩ | ⟨a, ao, ac, rfl, _, _, ha, hca⟩
  · rcases hb with ⟨_, bo, bc, rfl⟩ | ⟨b, bo, bc, rfl, _, _, hb, hcb⟩
    · exact wints_nil _ _ _ _ w
    · exact wints_nil _ _ _ _ w
  · rcases hb with ⟨rfl, bo, bc, rfl⟩ | ⟨b, bo, bc, rfl, _, _, hb, hcb⟩
    · exact wints_nil _ _ _ _ w
    · exact wints_some zs a ao b bo ac bc w ha hb hl hca hcb
end Go.Proofs.YtfconbblnmbnpadDoor
namespace Go.Proofs.YtfconbblnmbnpadDoor
open Go.RowKit

theorem fieldsSt : Tryd.prog.underlying 48 = some (.struct (Tryd.prog.fieldsOf 48)) := by kernel_rfl
theorem stoodSt : Tryd.prog.stoodInHeld 48 = false := by kernel_rfl
theorem guardSt : Tryd.prog.eqGuardType Tryd.prog.depth 48 = false := by kernel_rfl
theorem fieldsStIs : Tryd.prog.fieldsOf 48 = #[{ name := "At", type := 3, offset := 0, embedded := false, tag := "", pkgPath := "", byteOffset := 0 }, { name := "Cells", type := 46, offset := 1, embedded := false, tag := "", pkgPath := "", byteOffset := 8 }, { name := "Failed", type := 4, offset := 7, embedded := false, tag := "", pkgPath := "", byteOffset := 56 }] := by kernel_rfl
theorem eqIn_six (a b c d e f : Int) (w : World) : (Op.equalIn 9999 46 (.agg #[.int .i64 a, .int .i64 b, .int .i64 c, .int .i64 d, .int .i64 e, .int .i64 f]) (.agg #[.int .i64 a, .int .i64 b, .int .i64 c, .int .i64 d, .int .i64 e, .int .i64 f])).run Tryd.prog w = .ok true w := by
  obtain ⟨n, hn⟩ : ∃ n, n + 1 = 9999 := ⟨9998, rfl⟩
  obtain ⟨m, hm⟩ : ∃ m, n = m + 1 := ⟨9997, by omega⟩
  rw [← hn]
  clear hn
  have hq : ∀ (x : Int) (w : World), (Op.equalIn n 3 (.int .i64 x) (.int .i64 x)).run Tryd.prog w = .ok true w := fun x w => by
    rw [hm, run_equalIn_int w m 3 .i64 .i64 x x Tryd.underlying3]
    simp
  clear hm
  simp only [Op.equalIn, Sem.run_bind, run_underlying Tryd.underlying46, Result.andThen_ok]
  simp [List.range', go_sem, hq]
theorem eqIn_st (p a b c d e f : Int) (g : Bool) (w : World) : (Op.equalIn 10000 48 (.agg #[.int .i64 p, .int .i64 a, .int .i64 b, .int .i64 c, .int .i64 d, .int .i64 e, .int .i64 f, .bool g]) (.agg #[.int .i64 p, .int .i64 a, .int .i64 b, .int .i64 c, .int .i64 d, .int .i64 e, .int .i64 f, .bool g])).run Tryd.prog w = .ok true w := by
  rw [run_equalIn_agg _ _ _ _ _ fieldsSt stoodSt, fieldsStIs]
  simp [go_sem, Tryd.underlying3, Tryd.underlying4, eqIn_six]
theorem eql_st (p a b c d e f : Int) (g : Bool) (w : World) : (binOp .eql 48 (.agg #[.int .i64 p, .int .i64 a, .int .i64 b, .int .i64 c, .int .i64 d, .int .i64 e, .int .i64 f, .bool g]) (.agg #[.int .i64 p, .int .i64 a, .int .i64 b, .int .i64 c, .int .i64 d, .int .i64 e, .int .i64 f, .bool g])).run Tryd.prog w = .ok (.bool true) w := by
  rw [run_eql_struct, eqIn_st]
  rfl
theorem neq_st (p a b c d e f : Int) (g : Bool) (w : World) : (binOp .neq 48 (.agg #[.int .i64 p, .int .i64 a, .int .i64 b, .int .i64 c, .int .i64 d, .int .i64 e, .int .i64 f, .bool g]) (.agg #[.int .i64 p, .int .i64 a, .int .i64 b, .int .i64 c, .int .i64 d, .int .i64 e, .int .i64 f, .bool g])).run Tryd.prog w = .ok (.bool false) w := by
  rw [run_neq_struct, eqIn_st]
  rfl
end Go.Proofs.YtfconbblnmbnpadDoor
namespace Go.Proofs.YtfconbblnmbnpadDoor
open Go.RowKit

/-- The law's own plan: one room that sets a cell, every second tick. -/
def toyP : PD := ⟨[[(1, 2, 7)]], 2, [(0, 1, 0)], []⟩
theorem toy_ok : plchk toyP = 0 := by decide +kernel
theorem toy_first : (tickK toyP toyP.spans (kT toyP 0)).2 = (0, 0, 0, 0) := by decide +kernel
theorem toy_state : (roomK (kT toyP 1) 0).c 2 = 7 ∧ noRoom (kT toyP 1) 0 = false := by decide +kernel
theorem toy_next : (tickK toyP toyP.spans (kT toyP 1)).2.2.1 = -1 := by decide +kernel
/-- It lies in the world. -/
theorem toy_pln (W : World) (n : Nat) (hn : n = W.heap.size) : Pln (((W.alloc (.cells #[.int .i64 1, .int .i64 2, .int .i64 7] 25)).alloc (.cells #[.slice (some ⟨n, 0, none⟩) 1 1] 26)).alloc (.cells #[.int .i64 0, .int .i64 1, .int .i64 0] 42)) (.slice (some ⟨n + 1, 0, none⟩) 1 1) (.slice (some ⟨n + 2, 0, none⟩) 1 1) (.slice none 0 0) toyP := by
  subst hn
  refine ⟨Or.inr ⟨_, 0, 1, rfl, Nat.le_refl _, by simp, fun i c hi => ?_⟩, Or.inr ⟨_, 0, 1, rfl, Nat.le_refl _, by simp, fun i s hi => ?_⟩, Or.inl ⟨rfl, _, _, rfl⟩⟩
  · match i, hi with
    | 0, hi =>
      simp [toyP] at hi
      subst hi
      refine ⟨.slice (some ⟨W.heap.size, 0, none⟩) 1 1, by simp [go_sem], Or.inr ⟨W.heap.size, 0, 1, rfl, by simp; omega, fun j o ho => ?_⟩⟩
      match j, ho with
      | 0, ho => simp at ho; subst ho; simp [go_sem]
      | j + 1, ho => simp at ho
    | i + 1, hi => simp [toyP] at hi
  · match i, hi with
    | 0, hi => simp [toyP] at hi; subst hi; simp [go_sem]
    | i + 1, hi => simp [toyP] at hi
/-- The room of an event that is a value. -/
theorem field_room (a b c d : Int) (w : World) : (Instr.field 44 (.agg #[.int .i64 a, .int .i64 b, .int .i64 c, .int .i64 d]) 1).run Tryd.prog w = .ok (.int .i64 b) w := by kernel_rfl
/-- A row of states that is owned: where each lies. -/
theorem was_at {W : World} {base n : Nat} {v : Value} {l : List St} (h : W.ownsRow base 48 8 v n (stCells l)) (hn : n ≠ 0) : ∃ g cap, v = .slice (some ⟨g, 0, none⟩) n cap ∧ base ≤ g ∧ g < W.heap.size ∧ ∀ (r : Nat) s, l[r]? = some s → StC W g (r * 8) s := by
  rcases h.2 with ⟨_, h3⟩ | ⟨g, cap, cur, h2, h3, h4, _⟩
  · exact absurd h3 hn
  · refine ⟨g, cap, h2, h3, (Array.getElem?_eq_some_iff.1 h4).1, fun r s hs => ?_⟩
    have hc : ∀ j u, (stCells l)[j]? = some u → W.cell? ⟨g, j, none⟩ = some u := fun j u hj => by
      have := h.cells (g := g) (by rw [h2]; rfl) j u hj
      rw [Addr.add_lit, Nat.zero_add] at this
      exact this
    obtain ⟨h0, h1, h2, h3, h4, h5, h6, h7⟩ := stCells_at l r s hs
    exact ⟨hc _ _ h0, hc _ _ h1, hc _ _ h2, hc _ _ h3, hc _ _ h4, hc _ _ h5, hc _ _ h6, hc _ _ h7⟩
/-- What was held, laid by: each with its numbers. -/
structure HRow (k : KD) (B : Nat) (W : World) (v : Value) (l : List (Value × Int)) : Prop where
  own : W.ownsRow B 58 2 v l.length (hdCells l)
  rd : ∀ (i : Nat) x ln, l[i]? = some x → k.lines[i]? = some ln → Rd W x.1 ln.xs ∧ x.2 = ln.ls
  ap : ∀ x ∈ l, ∀ g, x.1.ownBlock = some g → B ≤ g ∧ g < W.heap.size ∧ v.ownBlock ≠ some g
theorem HRow.nil (k : KD) (W : World) : HRow k W.heap.size W (.slice none 0 0) [] := ⟨World.ownsRow_nil _ _ _ _, fun i x ln h => by simp at h, fun x hx => by cases hx⟩
theorem HRow.rlt {k : KD} {B : Nat} {W : World} {v : Value} {l : List (Value × Int)} (h : HRow k B W v l) : ∀ g, v.ownBlock = some g → B ≤ g ∧ g < W.heap.size := fun g hg => by
  rcases h.own.2 with ⟨h2, _⟩ | ⟨g', cap, cur, h2, h3, h4, _⟩
  · rw [h2] at hg
    cases hg
  · rw [h2] at hg
    simp only [Value.ownBlock, Option.some.injEq] at hg
    subst hg
    exact ⟨h3, (Array.getElem?_eq_some_iff.1 h4).1⟩
/-- What is written lies ahead of it. -/
theorem HRow.touch {k : KD} {B : Nat} {W W' : World} {v : Value} {l : List (Value × Int)} (h : HRow k B W v l) {M : List Nat} (ht : KTouch M W W') (hM : ∀ m ∈ M, m < B) : HRow k B W' v l := by
  refine ⟨own_block h.own (fun g hg => ht.block g (h.rlt g hg).2 (fun hm => ?_)), fun i x ln hx hl => ?_, fun x hx g hg => ?_⟩
  · have := hM g hm
    have := (h.rlt g hg).1
    omega
  · obtain ⟨h1, h2⟩ := h.rd i x ln hx hl
    refine ⟨h1.block (fun g hg he => ht.block g hg (fun hm => ?_)) ht.size, h2⟩
    have := hM g hm
    have := (h.ap x (List.mem_of_getElem? hx) g he).1
    omega
  · obtain ⟨h1, h2, h3⟩ := h.ap x hx g hg
    exact ⟨h1, Nat.lt_of_lt_of_le h2 ht.size, h3⟩
/-- One more. -/
theorem HRow.more {k : KD} {B : Nat} {W w7 w8 : World} {v v' u : Value} {l : List (Value × Int)} {ln : LnD} (h : HRow k B W v l) (hB : B ≤ W.heap.size) (hln : k.lines[l.length]? = some ln) (b7 : Below W.heap.size W w7) (hu : Rd w7 u ln.xs) (hf : ∀ g, u.ownBlock = some g → W.heap.size ≤ g ∧ g < w7.heap.size)
    {o1 o2 : Obj} (hg : ((w7.alloc o1).alloc o2).grownBy w8 v.ownBlock) (hown : w8.ownsRow B 58 2 v' (l.length + 1) (hdCells l ++ [u, .int .i64 ln.ls])) (hnew : ∀ g, v'.ownBlock = some g → v.ownBlock = some g ∨ w7.heap.size + 2 ≤ g) : HRow k B w8 v' (l ++ [(u, ln.ls)]) := by
  have hbl : Below w7.heap.size w7 ((w7.alloc o1).alloc o2) := ((Below.refl _ _).alloc (Nat.le_refl _) _).alloc (by simp) _
  have hs2 : ((w7.alloc o1).alloc o2).heap.size = w7.heap.size + 2 := by simp
  have hs8 : w7.heap.size + 2 ≤ w8.heap.size := by have := hg.size; omega
  have hs7 := b7.size
  have hk : ∀ g, g < w7.heap.size → v.ownBlock ≠ some g → w8.heap[g]? = w7.heap[g]? := fun g h1 h2 => (hg.block g (by omega) (fun e => h2 e.symm)).trans (hbl.block g h1)
  have hun : ∀ g, u.ownBlock = some g → v.ownBlock ≠ some g := fun g h1 h2 => by
    have := (hf g h1).1
    have := (h.rlt g h2).2
    omega
  refine ⟨by rw [List.length_append, hdCells_snoc]; exact hown, fun i x ln' hx hl => ?_, fun x hx g hgx => ?_⟩
  · by_cases hil : i < l.length
    · rw [List.getElem?_append_left hil] at hx
      obtain ⟨h1, h2⟩ := h.rd i x ln' hx hl
      refine ⟨(h1.block (fun g hg' he => b7.block g hg') b7.size).block (fun g hg' he => hk g hg' (h.ap x (List.mem_of_getElem? hx) g he).2.2) (by omega), h2⟩
    · have hlt := (List.getElem?_eq_some_iff.1 hx).1
      rw [List.length_append, List.length_singleton] at hlt
      obtain rfl : i = l.length := by omega
      rw [List.getElem?_append_right (Nat.le_refl _), Nat.sub_self] at hx
      simp only [List.getElem?_cons_zero, Option.some.injEq] at hx
      subst hx
      rw [hln] at hl
      obtain rfl := Option.some.inj hl
      exact ⟨hu.block (fun g hg' he => hk g hg' (hun g he)) (by omega), rfl⟩
  · rcases List.mem_append.1 hx with h1 | h1
    · obtain ⟨h2, h3, h4⟩ := h.ap x h1 g hgx
      refine ⟨h2, by omega, fun e => ?_⟩
      rcases hnew g e with h5 | h5
      · exact h4 h5
      · omega
    · rw [List.mem_singleton] at h1
      subst h1
      obtain ⟨h2, h3⟩ := hf g hgx
      refine ⟨by omega, by omega, fun e => ?_⟩
      rcases hnew g e with h5 | h5
      · exact hun g hgx h5
      · omega
/-- Where each lies. -/
theorem HRow.at {k : KD} {B : Nat} {W : World} {v : Value} {l : List (Value × Int)} (h : HRow k B W v l) {i : Nat} (hi : i < l.length) : ∃ g cap x, v = .slice (some ⟨g, 0, none⟩) l.length cap ∧ l[i]? = some x ∧ W.cell? ⟨g, i * 2, none⟩ = some x.1 ∧ W.cell? ⟨g, i * 2 + 1, none⟩ = some (.int .i64 x.2) := by
  rcases h.own.2 with ⟨_, h3⟩ | ⟨g, cap, cur, h2, _⟩
  · omega
  · have hc : ∀ j u, (hdCells l)[j]? = some u → W.cell? ⟨g, j, none⟩ = some u := fun j u hj => by
      have := h.own.cells (g := g) (by rw [h2]; rfl) j u hj
      rw [Addr.add_lit, Nat.zero_add] at this
      exact this
    have hx := List.getElem?_eq_getElem hi
    obtain ⟨h0, h1⟩ := hdCells_at l i _ hx
    exact ⟨g, cap, _, h2, hx, hc _ _ h0, hc _ _ h1⟩
end Go.Proofs.YtfconbblnmbnpadDoor
namespace Go.Proofs.YtfconbblnmbnpadDoor
open Go.RowKit

set_option maxRecDepth 1000000 in
set_option maxHeartbeats 4000000 in
theorem wheld_any (va vb : Value) (zs : List Int) (ls : Int) (w : World) (ha : Rd w va zs) (hb : Rd w vb zs) (hl : zs.length ≤ 1000000) :
    Calls Tryd.prog 16 #[.agg #[va, .int .i64 ls], .agg #[vb, .int .i64 ls]] w fun e w' => e = .returned (.bool true) ∧ Below w.heap.size w w' := by
  obtain ⟨aa, ac, rfl⟩ := ha.form
  obtain ⟨ba, bc, rfl⟩ := hb.form
  have hA : Below w.heap.size w ((w.alloc (.cells #[.slice aa zs.length ac, .int .i64 ls] 58)).alloc (.cells #[.slice ba zs.length bc, .int .i64 ls] 58)) := ((Below.refl _ _).alloc (Nat.le_refl _) _).alloc (by simp) _
  have h := wints_any _ _ zs _ (ha.all hA) (hb.all hA) hl
  clear ha hb
  go_enter Tryd.func16, Tryd.ntmps16
  go_wp2_with (go_at_call 38; refine h.mono ?_; rintro e w1 ⟨rfl, b1⟩; clear h)
  go_ret
  exact ⟨rfl, hA.trans (b1.mono hA.size)⟩
end Go.Proofs.YtfconbblnmbnpadDoor
namespace Go.Proofs.YtfconbblnmbnpadDoor
open Go.RowKit

set_option maxRecDepth 1000000 in
set_option maxHeartbeats 16000000 in
theorem kturns_of {G : World → Prop} (C : KerC G) (CT : KerTime C) (CW : KerWire C) (p : PD) (vc vs vw : Value) (n : Int) (w : World) (hG : G w) (hP : Pln w vc vs vw p) :
    Calls Tryd.prog 4 #[plV vc p.ticks vs vw, .int .i64 n] w fun e w' => e = .returned (.bool true) ∧ Below w.heap.size w w' := by
  obtain ⟨ca, cc, rfl⟩ := hP.code.form
  obtain ⟨sa, sc, rfl⟩ := hP.spans.form
  obtain ⟨wa, wc', rfl⟩ := hP.wires.form
  have hx0 := Bx.first w (.slice ca p.code.length cc) p.ticks (.slice sa p.spans.length sc) (.slice wa p.wires.length wc')
  have HP : Hid (Pln w (.slice ca p.code.length cc) (.slice sa p.spans.length sc) (.slice wa p.wires.length wc') p) := hP
  have HG : Hid (G w) := hG
  clear hP hG
  unfold plV
  go_enter Tryd.func4, Tryd.ntmps4
  go_upto_region 1 with fail
  generalize hW0 : w.alloc (.cells #[.slice ca p.code.length cc, .int .i64 p.ticks, .slice sa p.spans.length sc, .slice wa p.wires.length wc'] 31) = W0 at hx0 ⊢
  clear hW0
  have bT : Below W0.heap.size W0 (((W0.alloc (.cells #[.int .i64 1, .int .i64 2, .int .i64 7] 25)).alloc (.cells #[.slice (some ⟨W0.heap.size, 0, none⟩) 1 1] 26)).alloc (.cells #[.int .i64 0, .int .i64 1, .int .i64 0] 42)) := (((Below.refl _ W0).alloc (Nat.le_refl _) _).alloc (by simp) _).alloc (by rw [World.size_alloc, World.size_alloc]; omega) _
  have hxT := hx0.step bT
  have hGT : G (((W0.alloc (.cells #[.int .i64 1, .int .i64 2, .int .i64 7] 25)).alloc (.cells #[.slice (some ⟨W0.heap.size, 0, none⟩) 1 1] 26)).alloc (.cells #[.int .i64 0, .int .i64 1, .int .i64 0] 42)) := C.all w _ HG.out hxT.below
  have HNew : Hid (Calls Tryd.prog 10 #[.agg #[.slice (some ⟨W0.heap.size + 1, 0, none⟩) 1 1, .int .i64 2, .slice (some ⟨W0.heap.size + 2, 0, none⟩) 1 1, .slice none 0 0]] (((W0.alloc (.cells #[.int .i64 1, .int .i64 2, .int .i64 7] 25)).alloc (.cells #[.slice (some ⟨W0.heap.size, 0, none⟩) 1 1] 26)).alloc (.cells #[.int .i64 0, .int .i64 1, .int .i64 0] 42)) fun e w1 => ∃ kb, e = .returned (.tuple #[.pointer (some ⟨kb, 0, none⟩), .nilIface]) ∧
      Calls Tryd.prog 11 #[.pointer (some ⟨kb, 0, none⟩)] w1 fun e w2 => e = .returned (.agg #[.int .i64 0, .int .i64 0, .int .i64 0, .int .i64 0]) ∧
      Calls Tryd.prog 12 #[.pointer (some ⟨kb, 0, none⟩), .int .i64 0] (w2.alloc (.cells #[.int .i64 0, .int .i64 0, .int .i64 0, .int .i64 0] 44)) fun e w3 => (∃ x0 x1 x2 x3 x4 x5 : Int, ∃ b : Bool, e = .returned (.tuple #[.agg #[.int .i64 x0, .int .i64 x1, .int .i64 x2, .int .i64 7, .int .i64 x3, .int .i64 x4, .int .i64 x5, .bool b], .nilIface])) ∧ (∀ o, (w3.alloc o).cell? ⟨w2.heap.size, 1, none⟩ = some (.int .i64 0)) ∧
      ∀ W3, Below w3.heap.size w3 W3 → Calls Tryd.prog 11 #[.pointer (some ⟨kb, 0, none⟩)] W3 fun e w4 => (∃ x0 x2 x3 : Int, e = .returned (.agg #[.int .i64 x0, .int .i64 (-1), .int .i64 x2, .int .i64 x3])) ∧
      Calls Tryd.prog 13 #[.pointer (some ⟨kb, 0, none⟩)] w4 fun e w5 => e = .returned (.int .i64 2) ∧ Bx w w5 (.slice ca p.code.length cc) p.ticks (.slice sa p.spans.length sc) (.slice wa p.wires.length wc')) := by
    have q1 := C.new toyP _ _ _ _ hGT (toy_pln W0 _ rfl) toy_ok
    refine q1.mono ?_
    rintro e w1 ⟨kb, F1, rfl, hK1⟩
    refine ⟨kb, rfl, ?_⟩
    refine (C.tick hGT hK1 toy_ok (kT_ok toy_ok 0) (by decide)).mono ?_
    rintro e w2 ⟨rfl, F2, hK2, _, _⟩
    refine ⟨by rw [show (tickK toyP toyP.spans (newK toyP)).2 = (0, 0, 0, 0) from toy_first]; rfl, ?_⟩
    have hb2 : Below w2.heap.size w2 (w2.alloc (.cells #[.int .i64 0, .int .i64 0, .int .i64 0, .int .i64 0] 44)) := (Below.refl _ w2).alloc (Nat.le_refl _) _
    have hK2' := C.frame hK2 (KTouch.of (M := []) hb2) (by simp)
    refine (C.state 0 hK2' (kT_ok toy_ok 1) toy_ok).mono ?_
    rintro e w3 ⟨rfl, hb3⟩
    refine ⟨⟨_, _, _, _, _, _, _, by rw [show noRoom (tickK toyP toyP.spans (newK toyP)).1 0 = false from toy_state.2]; unfold stA; rw [show (roomK (tickK toyP toyP.spans (newK toyP)).1 0).c 2 = 7 from toy_state.1]; rfl⟩, fun o => (((Below.refl _ w3).alloc (Nat.le_refl _) o).cell (p := ⟨w2.heap.size, 1, none⟩) (by have := hb3.size; rw [World.size_alloc] at this; show w2.heap.size < _; omega)).trans ((hb3.cell (p := ⟨w2.heap.size, 1, none⟩) (by simp)).trans (by simp)), fun W3 hb4 => ?_⟩
    have hK3 := C.frame hK2' (KTouch.of (M := []) (hb3.trans (hb4.mono hb3.size))) (by simp)
    refine (C.tick hGT hK3 toy_ok (kT_ok toy_ok 1) (by decide)).mono ?_
    rintro e w4 ⟨rfl, F4, hK4, _, _⟩
    refine ⟨⟨_, _, _, by unfold evA; rw [show (tickK toyP toyP.spans (tickK toyP toyP.spans (newK toyP)).1).2.2.1 = -1 from toy_next]⟩, ?_⟩
    refine (CT hK4).mono ?_
    rintro e w5 ⟨rfl, q, rfl⟩
    exact ⟨by rw [show (tickK toyP toyP.spans (tickK toyP toyP.spans (newK toyP)).1).1 = kT toyP 2 from rfl, kT_time]; rfl, (hxT.step (C.since hK4)).dN q⟩
  clear bT hx0 hxT hGT
  have hfr := field_room
  go_upto_region 8 with (first
    | (go_at_call 10; refine HNew.out.mono ?_; rintro e w1 ⟨kb1, rfl, q2⟩; clear HNew)
    | (go_at_call 11; refine q2.mono ?_; rintro e w2 ⟨rfl, q3⟩; clear q2)
    | (go_at_call 12; refine q3.mono ?_; rintro e w3 ⟨⟨x0, x1, x2, x3, x4, x5, xb, rfl⟩, h31, q4⟩; clear q3)
    | (go_at_call 11; refine (q4 _ ((Below.refl _ w3).alloc (Nat.le_refl _) _)).mono ?_; rintro e w4 ⟨⟨y0, y2, y3, rfl⟩, q5⟩; clear q4)
    | (go_at_call 13; refine q5.mono ?_; rintro e w5 ⟨rfl, hx5⟩; clear q5))
  clear h31 hfr
  have hs5 := hx5.size
  have k0 := hx5.c0
  have k1 := hx5.c1
  have k2 := hx5.c2
  have k3 := hx5.c3
  have HG5 : Hid (G w5) := C.all w w5 HG.out hx5.below
  by_cases hp : plchk p = 0
  case neg =>
    have qn := C.no p _ _ _ w5 HG5.out (HP.out.all hx5.below) hp
    unfold plV at qn
    rw [wErr_not hp] at qn
    generalize plchk p = z at qn
    clear hp
    go_wp2_with (go_at_call 10; refine qn.mono ?_; rintro e w6 ⟨xp, rfl, b6⟩; clear qn)
    go_ret
    exact ⟨rfl, hx5.below.trans (b6.mono hx5.below.size)⟩
  have qn := C.new p _ _ _ w5 HG5.out (HP.out.all hx5.below) hp
  unfold plV at qn
  have HW : Hid (∀ (t : Nat) W, Below w.heap.size w W → Calls Tryd.prog 14 #[.int .i64 p.ticks, .slice sa p.spans.length sc, .int .i64 (t : Int)] W fun e w' => e = .returned (.tuple #[.int .i64 (whoK p (kT p t)), .nilIface]) ∧ Below W.heap.size W w') := fun t W hb => by
    refine (who_any p.ticks p.spans _ t W (HP.out.spans.all hb)).mono ?_
    rintro e w' ⟨rfl, h⟩
    refine ⟨?_, h⟩
    unfold whoR whoK
    rw [if_pos (plchk_zero hp).2.2.1, if_neg (by omega), kT_time]
    rfl
  go_upto_region 11 with (go_at_call 10; refine qn.mono ?_; rintro e w6 ⟨kb, F, rfl, hK⟩; clear qn)
  have hx6 := hx5.step (C.since hK)
  clear k0 k1 k2 k3 hx5
  go_wp2
  go_loopw [12] (fun i wr => ∃ (t : Nat) (F : List Nat), t ≤ 100 ∧ i = .int .i64 t ∧ C.K w5 wr p (.slice ca p.code.length cc) (.slice sa p.spans.length sc) (.slice wa p.wires.length wc') (kT p t) kb F ∧ Bx w wr (.slice ca p.code.length cc) p.ticks (.slice sa p.spans.length sc) (.slice wa p.wires.length wc')) (fun i _ => 100 - (intOf i).toNat)
  case atStart => exact ⟨0, F, Nat.zero_le _, rfl, hK, hx6⟩
  case round =>
  clear hK hx6
  obtain ⟨t, F1, ht, rfl, hK, hx⟩ := hrel
  by_cases htn : (t : Int) < n
  case neg =>
    have htn' : decide ((t : Int) < n) = false := decide_eq_false htn
    clear hK
    go_wp2
    go_ret
    exact ⟨rfl, hx.below⟩
  by_cases ht1 : t < 100
  case neg =>
    obtain rfl : t = 100 := by omega
    rw [show ((100 : Nat) : Int) = 100 from rfl] at htn
    clear hK
    go_wp2
    go_ret
    exact ⟨rfl, hx.below⟩
  have hti : (t : Int) < 100 := by omega
  have k1 := hx.c1
  have k2 := hx.c2
  rename World => wA
  have hWho := HW.out t wA hx.below
  obtain ⟨who, hwho⟩ : ∃ x, x = whoK p (kT p t) := ⟨_, rfl⟩
  rw [← hwho] at hWho
  have HWh : Hid (who = whoK p (kT p t)) := hwho
  clear hwho
  go_upto_region 15 with (go_at_call 14; refine hWho.mono ?_; rintro e wB ⟨rfl, bB⟩; clear hWho)
  replace hK := C.frame hK (KTouch.of (M := []) bB) (by simp)
  replace hx := hx.step bB
  clear k1 k2 bB
  have HKo : Hid (KOk p (kT p t)) := kT_ok hp t
  have HLen : Hid ((kT p t).rooms.length = p.code.length ∧ (kT p t).lines.length = p.wires.length ∧ p.code.length ≤ 5 ∧ p.wires.length ≤ 12) := ⟨(kT_ok hp t).rl, (kT_ok hp t).ll, (plchk_zero hp).1, (wschk_ok (plchk_zero hp).2.2.2.1).1⟩
  obtain ⟨ii, hi, hz0, hz1, hz2⟩ := info_parts infoSt
  obtain ⟨jj, hj, hy0, hy1, hy2⟩ := info_parts infoHd
  go_wp2
  go_loopw [15, 17] (fun v i wr => ∃ r : Nat, r ≤ p.code.length ∧ i = .int .i64 r ∧ wr.ownsRow wB.heap.size 48 8 v r (stCells ((kT p t).rooms.take r)) ∧ Below wB.heap.size wB wr) (fun _ i _ => p.code.length - (intOf i).toNat)
  case atStart => exact ⟨0, Nat.zero_le _, rfl, World.ownsRow_nil _ _ _ _, Below.refl _ _⟩
  case round =>
    obtain ⟨r, hr, rfl, hown, hb⟩ := hrel
    have hbx := hx.step hb
    have k0 := hbx.c0
    by_cases hrl : r < p.code.length
    case pos =>
      have hri : (r : Int) < (p.code.length : Int) := by omega
      obtain ⟨s, hs⟩ : ∃ s, (kT p t).rooms[r]? = some s := ⟨_, List.getElem?_eq_getElem (by rw [HLen.out.1]; exact hrl)⟩
      have HS : Hid ((kT p t).rooms[r]? = some s) := hs
      have HSt : Hid (Calls Tryd.prog 12 #[.pointer (some ⟨kb, 0, none⟩), .int .i64 r] wr fun e w' => e = .returned (.tuple #[.agg #[.int .i64 s.p, .int .i64 (s.c 0), .int .i64 (s.c 1), .int .i64 (s.c 2), .int .i64 (s.c 3), .int .i64 (s.c 4), .int .i64 (s.c 5), .bool s.f], .nilIface]) ∧ Below wr.heap.size wr w') := (C.state (r : Int) (C.frame hK (KTouch.of (M := []) hb) (by simp)) HKo.out hp).mono (by
        rintro e w' ⟨rfl, h⟩
        have hno : noRoom (kT p t) (r : Int) = false := by unfold noRoom; rw [HLen.out.1]; simp [hrl]
        have hrm : roomK (kT p t) (r : Int) = s := by unfold roomK; rw [hno, if_neg (by decide), Int.toNat_natCast]; simp [List.getD, hs]
        exact ⟨by rw [hno, hrm]; rfl, h⟩)
      clear hs
      have hr5 : r + 1 ≤ 5 := by have := HLen.out.2.2.1; omega
      go_upto_region 23 with (go_at_call 12; refine HSt.out.mono ?_; rintro e w7 ⟨rfl, b7⟩; clear HSt)
      have own7 : w7.ownsRow wB.heap.size 48 8 _ r (stCells ((kT p t).rooms.take r)) := own_below hown b7 (Nat.le_refl _)
      have hb7 : Below wB.heap.size wB w7 := hb.trans (b7.mono hb.size)
      clear hown k0 hbx
      go_wp2_with (at_builtin; refine wpList_append_own _ rfl _ _ 54 rfl wB.heap.size 48 ii _ 8 64 Tryd.underlying54 hi hz0 hz1 hz2 rfl (by decide) _ _ _ rfl ((own7.alloc _).alloc _) ⟨w7.heap.size + 1, 0, none⟩ 1 1 [.int .i64 s.p, .int .i64 (s.c 0), .int .i64 (s.c 1), .int .i64 (s.c 2), .int .i64 (s.c 3), .int .i64 (s.c 4), .int .i64 (s.c 5), .bool s.f] rfl rfl ?c1A ?c2A ?c3A ?c4A ?c5A ?_)
      case c1A => exact st_new (by simp) s _
      case c2A => exact st_one s
      case c3A => unfold maxLen; omega
      case c4A => omega
      case c5A => have := hb7.size; simp; omega
      intro v1 w8 own8 hg8 _
      obtain ⟨g8, cap8, rfl⟩ := own_succ own8
      have hb8 : Below wB.heap.size wB w8 := ((hb7.alloc hb7.size _).alloc (by have := hb7.size; simp; omega) _).grown hg8 (by have := hb7.size; simp; omega) (fun j hj => (own7.lt j hj).1)
      clear own7 hb7 hg8
      go_wp2
      go_roundw
      case rel => exact ⟨r + 1, by omega, by go_num, by rw [List.take_add_one, HS.out, Option.toList_some, stCells_snoc]; exact own8, hb8⟩
      case measure => simp [intOf]; omega
    obtain rfl : r = p.code.length := by omega
    have hri : decide ((p.code.length : Int) < (p.code.length : Int)) = false := decide_eq_false (by omega)
    have hrn : decide (p.code.length < p.code.length) = false := decide_eq_false (by omega)
    rw [List.take_of_length_le (by rw [HLen.out.1]; exact Nat.le_refl _)] at hown
    obtain ⟨wg, wcap, rfl, hwg1, hwg2, hwas⟩ := was_at hown (by have := (plchk_zero hp).2.1; omega)
    have hKC := C.frame hK (KTouch.of (M := []) hb) (by simp)
    have HF : Hid (∀ g ∈ F1, g < wB.heap.size) := fun g hg => (C.ge hK g hg).2
    clear hown hK hx
    rename World => wC
    have hbC := hb.size
    go_wp2
    go_loopw [16, 20] (fun v i wr => ∃ l : List (Value × Int), l.length ≤ p.wires.length ∧ i = .int .i64 (l.length : Nat) ∧ HRow (kT p t) wC.heap.size wr v l ∧ Below wC.heap.size wC wr) (fun _ i _ => p.wires.length - (intOf i).toNat)
    case atStart => exact ⟨[], Nat.zero_le _, rfl, HRow.nil _ _, Below.refl _ _⟩
    case round =>
    obtain ⟨l, hl, rfl, hrow, hb2⟩ := hrel
    have hbx2 := hbx.step hb2
    have k3 := hbx2.c3
    by_cases hll : l.length < p.wires.length
    case pos =>
      have hli : (l.length : Int) < (p.wires.length : Int) := by omega
      obtain ⟨ln, hln⟩ : ∃ ln, (kT p t).lines[l.length]? = some ln := ⟨_, List.getElem?_eq_getElem (by rw [HLen.out.2.1]; exact hll)⟩
      have HLn : Hid ((kT p t).lines[l.length]? = some ln) := hln
      have HWi : Hid (Calls Tryd.prog 15 #[.pointer (some ⟨kb, 0, none⟩), .int .i64 (l.length : Int)] wr fun e w' => ∃ ua uc, e = .returned (.tuple #[.agg #[.slice ua ln.xs.length uc, .int .i64 ln.ls], .nilIface]) ∧ Rd w' (.slice ua ln.xs.length uc) ln.xs ∧ (∀ g, (Value.slice ua ln.xs.length uc).ownBlock = some g → wr.heap.size ≤ g ∧ g < w'.heap.size) ∧ Below wr.heap.size wr w') := (CW (l.length : Int) (C.frame hKC (KTouch.of (M := []) hb2) (by simp)) HKo.out hp).mono (by
        rintro e w' ⟨u, rfl, h1, h2, h3⟩
        have hno : noLine (kT p t) (l.length : Int) = false := by unfold noLine; rw [HLen.out.2.1]; simp [hll]
        have hlk : lineK (kT p t) (l.length : Int) = ln := by unfold lineK; rw [hno, if_neg (by decide), Int.toNat_natCast]; simp [List.getD, hln]
        rw [hlk] at h1 ⊢
        obtain ⟨ua, uc, rfl⟩ := h1.form
        exact ⟨ua, uc, by rw [hno]; rfl, h1, h2, h3⟩)
      clear hln
      have hl12 : l.length + 1 ≤ 12 := by have := HLen.out.2.2.2; omega
      go_upto_region 30 with (go_at_call 15; refine HWi.out.mono ?_; rintro e w7 ⟨ua, uc, rfl, hrd, hfr, b7⟩; clear HWi)
      have own7 : w7.ownsRow wC.heap.size 58 2 _ l.length (hdCells l) := own_below hrow.own b7 (Nat.le_refl _)
      have hs7 : wC.heap.size ≤ w7.heap.size := Nat.le_trans hb2.size b7.size
      have HRw : Hid (HRow (kT p t) wC.heap.size wr _ l) := hrow
      have HRd : Hid (Rd w7 (.slice ua ln.xs.length uc) ln.xs ∧ (∀ g, (Value.slice ua ln.xs.length uc).ownBlock = some g → wr.heap.size ≤ g ∧ g < w7.heap.size)) := ⟨hrd, hfr⟩
      clear hrow hrd hfr k3 hbx2
      go_wp2_with (at_builtin; refine wpList_append_at _ rfl _ _ 55 rfl wC.heap.size 58 jj _ 2 32 Tryd.underlying55 hj hy0 hy1 hy2 rfl (by decide) _ _ _ rfl ((own7.alloc _).alloc _) ⟨w7.heap.size + 1, 0, none⟩ 1 1 [.slice ua ln.xs.length uc, .int .i64 ln.ls] rfl rfl ?c1A ?c2A ?c3A ?c4A ?c5A ?_)
      case c1A => exact hd_new (by simp) _ _ _
      case c2A => intro u hu; simp at hu; rcases hu with rfl | rfl <;> rfl
      case c3A => unfold maxLen; omega
      case c4A => omega
      case c5A => simp; omega
      intro v1 w8 own8 hg8 hnw8
      obtain ⟨g8, cap8, rfl⟩ := own_succ own8
      have HR8 : Hid (HRow (kT p t) wC.heap.size w8 (.slice (some ⟨g8, 0, none⟩) (l.length + 1) cap8) (l ++ [(.slice ua ln.xs.length uc, ln.ls)])) := HRw.out.more hb2.size HLn.out b7 HRd.out.1 HRd.out.2 hg8 own8 (fun g hg => by
        have := hnw8 g hg
        simpa using this)
      have hb8 : Below wC.heap.size wC w8 := (((hb2.trans (b7.mono hb2.size)).alloc hs7 _).alloc (by simp; omega) _).grown hg8 (by simp; omega) (fun j hj => (own7.lt j hj).1)
      clear own7 own8 hg8 hnw8
      go_wp2
      go_roundw
      case rel => exact ⟨l ++ [(.slice ua ln.xs.length uc, ln.ls)], by rw [List.length_append]; simp; omega, by rw [List.length_append]; go_num, HR8.out, hb8⟩
      case measure => simp [intOf]; omega
    have hli : decide ((l.length : Int) < (p.wires.length : Int)) = false := decide_eq_false (by omega)
    have hln : decide (l.length < p.wires.length) = false := decide_eq_false (by omega)
    have HLl : Hid (l.length = p.wires.length) := by show _ = _; omega
    rename World => wD
    have hKD := C.frame hKC (KTouch.of (M := []) hb2) (by simp)
    have HGe : Hid (∀ g ∈ F1, w5.heap.size ≤ g) := fun g hg => (C.ge hKD g hg).1
    have HRw : Hid (HRow (kT p t) wC.heap.size wD _ l) := hrow
    have HWas : Hid (∀ (r : Nat) s, (kT p t).rooms[r]? = some s → StC wD wg (r * 8) s) := fun r s hs => (hwas r s hs).block (hb2.block wg hwg2)
    have hsD := hb2.size
    have HTk : Hid (Calls Tryd.prog 11 #[.pointer (some ⟨kb, 0, none⟩)] wD fun e w' => (∃ a3 a4 : Int, e = .returned (.agg #[.int .i64 t, .int .i64 who, .int .i64 a3, .int .i64 a4])) ∧ (∃ F2, C.K w5 w' p (.slice ca p.code.length cc) (.slice sa p.spans.length sc) (.slice wa p.wires.length wc') (kT p (t + 1)) kb F2) ∧ Bx w w' (.slice ca p.code.length cc) p.ticks (.slice sa p.spans.length sc) (.slice wa p.wires.length wc') ∧ (∀ (r : Nat) s, (kT p t).rooms[r]? = some s → StC w' wg (r * 8) s) ∧ HRow (kT p t) wC.heap.size w' _ l ∧ wD.heap.size ≤ w'.heap.size) := (C.tick HG5.out hKD hp HKo.out (by rw [kT_time]; omega)).mono (by
      rintro e w' ⟨rfl, F2, hK2, tk, _⟩
      obtain ⟨e1, e2⟩ := tick_told p (kT p t)
      refine ⟨⟨(tickK p p.spans (kT p t)).2.2.2.1, (tickK p p.spans (kT p t)).2.2.2.2, by unfold evA; rw [e1, e2, kT_time, ← HWh.out]⟩, ⟨F2, hK2⟩, Below.trans hbx2 ((tk.below HGe.out (C.since hKD).size).mono hs5), fun r s hs => (HWas.out r s hs).block (tk.block wg (by omega) (fun hm => by have := HF.out wg hm; omega)), HRw.out.touch tk (fun m hm => by have := HF.out m hm; omega), tk.size⟩)
    clear hrow hKC hKD hwas hbx2
    go_upto_region 31 with fail
    clear k3
    go_upto_region 32 with (go_at_call 11; refine HTk.out.mono ?_; rintro e wE ⟨⟨a3, a4, rfl⟩, ⟨F2, hK2⟩, hxE, hwasE, hrowE, hsE⟩; clear HTk)
    have HTm : Hid (Calls Tryd.prog 13 #[.pointer (some ⟨kb, 0, none⟩)] (wE.alloc (.cells #[.int .i64 t, .int .i64 who, .int .i64 a3, .int .i64 a4] 44)) fun e w' => e = .returned (.int .i64 ((t : Int) + 1)) ∧ Below wE.heap.size wE w') := (CT (C.frame hK2 (KTouch.of (M := []) ((Below.refl _ wE).alloc (Nat.le_refl _) _)) (by simp))).mono (by
      rintro e w' ⟨rfl, q, rfl⟩
      exact ⟨by rw [kT_time]; rfl, below_dN ((Below.refl _ wE).alloc (Nat.le_refl _) _) q⟩)
    go_upto_region 34 with (go_at_call 13; refine HTm.out.mono ?_; rintro e wF ⟨rfl, bF⟩; clear HTm)
    replace hK2 := C.frame hK2 (KTouch.of (M := []) bF) (by simp)
    replace hxE := hxE.step bF
    replace hwasE : ∀ (r : Nat) s, (kT p t).rooms[r]? = some s → StC wF wg (r * 8) s := fun r s hs => (hwasE r s hs).block (bF.block wg (by omega))
    replace hrowE := hrowE.touch (KTouch.of (M := []) bF) (by simp)
    have hsF : wD.heap.size ≤ wF.heap.size := Nat.le_trans hsE bF.size
    have hlt2 : wg < wF.heap.size := by omega
    clear bF hsE
    have HKo2 : Hid (KOk p (kT p (t + 1))) := kT_ok hp (t + 1)
    have HLen2 : Hid ((kT p (t + 1)).rooms.length = p.code.length ∧ (kT p (t + 1)).lines.length = p.wires.length) := ⟨(kT_ok hp (t + 1)).rl, (kT_ok hp (t + 1)).ll⟩
    have hnq := neq_st
    go_wp2
    go_loopw [24] (fun i wr => ∃ r : Nat, r ≤ p.code.length ∧ i = .int .i64 r ∧ Below wF.heap.size wF wr) (fun i _ => p.code.length - (intOf i).toNat)
    case atStart => exact ⟨0, Nat.zero_le _, rfl, Below.refl _ _⟩
    case round =>
    obtain ⟨r, hr, rfl, hb3⟩ := hrel
    have hbx3 := hxE.step hb3
    have k0 := hbx3.c0
    by_cases hrl : r < p.code.length
    case pos =>
      have hri : (r : Int) < (p.code.length : Int) := by omega
      have hr5 : r + 1 ≤ 5 := by have := HLen.out.2.2.1; omega
      obtain ⟨s2, hs2⟩ : ∃ s, (kT p (t + 1)).rooms[r]? = some s := ⟨_, List.getElem?_eq_getElem (by rw [HLen2.out.1]; exact hrl)⟩
      obtain ⟨s1, hs1⟩ : ∃ s, (kT p t).rooms[r]? = some s := ⟨_, List.getElem?_eq_getElem (by rw [HLen.out.1]; exact hrl)⟩
      have HSt : Hid (Calls Tryd.prog 12 #[.pointer (some ⟨kb, 0, none⟩), .int .i64 r] wr fun e w' => e = .returned (.tuple #[.agg #[.int .i64 s2.p, .int .i64 (s2.c 0), .int .i64 (s2.c 1), .int .i64 (s2.c 2), .int .i64 (s2.c 3), .int .i64 (s2.c 4), .int .i64 (s2.c 5), .bool s2.f], .nilIface]) ∧ Below wr.heap.size wr w') := (C.state (r : Int) (C.frame hK2 (KTouch.of (M := []) hb3) (by simp)) HKo2.out hp).mono (by
        rintro e w' ⟨rfl, h⟩
        have hno : noRoom (kT p (t + 1)) (r : Int) = false := by unfold noRoom; rw [HLen2.out.1]; simp [hrl]
        have hrm : roomK (kT p (t + 1)) (r : Int) = s2 := by unfold roomK; rw [hno, if_neg (by decide), Int.toNat_natCast]; simp [List.getD, hs2]
        exact ⟨by rw [hno, hrm]; rfl, h⟩)
      have HEq : Hid ((r : Int) ≠ who → s2 = s1) := fun hne => by
        have := tick_room (p := p) (k := kT p t) (r := r) (by rw [← HWh.out]; exact hne)
        rw [show (tickK p p.spans (kT p t)).1 = kT p (t + 1) from rfl, hs2, hs1] at this
        exact Option.some.inj this
      have hst1 := hwasE r s1 hs1
      clear hs1 hs2
      have hgr : wg < wr.heap.size := Nat.lt_of_lt_of_le hlt2 hb3.size
      replace hst1 := hst1.block (hb3.block wg hlt2)
      go_upto_region 38 with (go_at_call 12; refine HSt.out.mono ?_; rintro e w7 ⟨rfl, b7⟩; clear HSt)
      have hst7 := hst1.block (b7.block wg hgr)
      have hb7 : Below wF.heap.size wF w7 := hb3.trans (b7.mono hb3.size)
      have bA : Below w7.heap.size w7 (w7.alloc (.cells #[.int .i64 s2.p, .int .i64 (s2.c 0), .int .i64 (s2.c 1), .int .i64 (s2.c 2), .int .i64 (s2.c 3), .int .i64 (s2.c 4), .int .i64 (s2.c 5), .bool s2.f] 48)) := (Below.refl _ _).alloc (Nat.le_refl _) _
      have hst8 := hst7.block (bA.block wg (Nat.lt_of_lt_of_le hgr b7.size))
      have hb8 : Hid (Below wF.heap.size wF (w7.alloc (.cells #[.int .i64 s2.p, .int .i64 (s2.c 0), .int .i64 (s2.c 1), .int .i64 (s2.c 2), .int .i64 (s2.c 3), .int .i64 (s2.c 4), .int .i64 (s2.c 5), .bool s2.f] 48))) := hb7.trans (bA.mono hb7.size)
      clear hst1 hst7 hb7 bA k0 hbx3 b7
      by_cases hwr : (r : Int) = who
      · subst hwr
        clear hst8
        go_quiet (fail)
        go_wp2
        go_roundw
        case rel => exact ⟨r + 1, by omega, by go_num, below_dN hb8.out nq⟩
        case measure => simp [intOf]; omega
      · obtain rfl := HEq.out hwr
        have hwr' : ((r : Int) == who) = false := by simpa using hwr
        obtain ⟨c0, c1, c2, c3, c4, c5, c6, c7⟩ := hst8
        go_quiet (fail)
        go_wp2
        go_roundw
        case rel => exact ⟨r + 1, by omega, by go_num, below_dN hb8.out nq⟩
        case measure => simp [intOf]; omega
    obtain rfl : r = p.code.length := by omega
    have hri : decide ((p.code.length : Int) < (p.code.length : Int)) = false := decide_eq_false (by omega)
    have hrn : decide (p.code.length < p.code.length) = false := decide_eq_false (by omega)
    replace hK2 := C.frame hK2 (KTouch.of (M := []) hb3) (by simp)
    replace hrowE := hrowE.touch (KTouch.of (M := []) hb3) (by simp)
    clear hwasE hxE hnq
    obtain ⟨vg, vcap, rfl⟩ := own4_form hrowE.own
    rename World => wH
    go_upto_region 40 with fail
    clear k0
    go_wp2
    go_loopw [27] (fun i wr => ∃ r : Nat, r ≤ p.wires.length ∧ i = .int .i64 r ∧ Below wH.heap.size wH wr) (fun i _ => p.wires.length - (intOf i).toNat)
    case atStart => exact ⟨0, Nat.zero_le _, rfl, Below.refl _ _⟩
    case round =>
    obtain ⟨r, hr, rfl, hb4⟩ := hrel
    have hbx4 := hbx3.step hb4
    have k3 := hbx4.c3
    by_cases hrl : r < p.wires.length
    case pos =>
      have hri : (r : Int) < (p.wires.length : Int) := by omega
      have hr12 : r + 1 ≤ 12 := by have := HLen.out.2.2.2; omega
      obtain ⟨wb, wo, f, tt, kk, dd, rfl, hwlt, hxw, d0, d1, _, _⟩ := HP.out.wires.at hrl
      have hblw := hbx4.below
      replace d0 := (hblw.cell (p := ⟨wb, _, none⟩) hwlt).trans d0
      replace d1 := (hblw.cell (p := ⟨wb, _, none⟩) hwlt).trans d1
      have hwlt' : wb < wr.heap.size := Nat.lt_of_lt_of_le hwlt hblw.size
      have hwl2 : w.heap.size < wr.heap.size := by have := hbx4.size; omega
      obtain ⟨ln2, hln2⟩ : ∃ ln, (kT p (t + 1)).lines[r]? = some ln := ⟨_, List.getElem?_eq_getElem (by rw [HLen2.out.2]; exact hrl)⟩
      obtain ⟨ln1, hln1⟩ : ∃ ln, (kT p t).lines[r]? = some ln := ⟨_, List.getElem?_eq_getElem (by rw [HLen.out.2.1]; exact hrl)⟩
      have HWi : Hid (Calls Tryd.prog 15 #[.pointer (some ⟨kb, 0, none⟩), .int .i64 (r : Int)] wr fun e w' => ∃ ua uc, e = .returned (.tuple #[.agg #[.slice ua ln2.xs.length uc, .int .i64 ln2.ls], .nilIface]) ∧ Rd w' (.slice ua ln2.xs.length uc) ln2.xs ∧ Below wr.heap.size wr w') := (CW (r : Int) (C.frame hK2 (KTouch.of (M := []) hb4) (by simp)) HKo2.out hp).mono (by
        rintro e w' ⟨u, rfl, h1, h2, h3⟩
        have hno : noLine (kT p (t + 1)) (r : Int) = false := by unfold noLine; rw [HLen2.out.2]; simp [hrl]
        have hlk : lineK (kT p (t + 1)) (r : Int) = ln2 := by unfold lineK; rw [hno, if_neg (by decide), Int.toNat_natCast]; simp [List.getD, hln2]
        rw [hlk] at h1 ⊢
        obtain ⟨ua, uc, rfl⟩ := h1.form
        exact ⟨ua, uc, by rw [hno]; rfl, h1, h3⟩)
      have HEq : Hid (f ≠ who → tt ≠ who → ln2 = ln1) := fun h1 h2 => by
        have := tick_line hp HKo.out hxw (by rw [← HWh.out]; exact h1) (by rw [← HWh.out]; exact h2)
        rw [show (tickK p p.spans (kT p t)).1 = kT p (t + 1) from rfl, hln2, hln1] at this
        exact Option.some.inj this
      have HXl : Hid (ln2.xs.length ≤ 1000000) := by
        show _ ≤ _
        have hlo := HKo2.out.lines r ln2 _ hln2 hxw
        rcases wchk_kind ((wschk_ok (plchk_zero hp).2.2.2.1).2 _ (List.mem_of_getElem? hxw)) with ⟨h1, _⟩ | ⟨h1, h2, h3⟩
        · have := hlo.one h1
          omega
        · have := hlo.deep h1
          omega
      have hrow4 := hrowE.touch (KTouch.of (M := []) hb4) (by simp)
      have hll : r < l.length := by rw [HLl.out]; exact hrl
      have HRd1 : Hid (∃ hg xa xc, vg = some ⟨hg, 0, none⟩ ∧ hg < wr.heap.size ∧ wr.cell? ⟨hg, r * 2, none⟩ = some (.slice xa ln1.xs.length xc) ∧ wr.cell? ⟨hg, r * 2 + 1, none⟩ = some (.int .i64 ln1.ls) ∧ Rd wr (.slice xa ln1.xs.length xc) ln1.xs) := by
        obtain ⟨hg, cap, x, hv, hx, h0, h1⟩ := hrow4.at hll
        obtain ⟨h2, h3⟩ := hrow4.rd r x ln1 hx hln1
        obtain ⟨xa, xc, hxe⟩ := h2.form
        rw [hxe] at h0 h2
        rw [h3] at h1
        injection hv with hv1
        exact ⟨hg, xa, xc, hv1, (wlt h0), h0, h1, h2⟩
      clear hln1 hln2 hxw hblw hrow4
      go_upto_region 44 with (go_at_call 15; refine HWi.out.mono ?_; rintro e w7 ⟨ua, uc, rfl, hrd, b7⟩; clear HWi)
      have hs7 := b7.size
      have bA : Below w7.heap.size w7 (w7.alloc (.cells #[.slice ua ln2.xs.length uc, .int .i64 ln2.ls] 58)) := (Below.refl _ _).alloc (Nat.le_refl _) _
      have bW : Below wr.heap.size wr (w7.alloc (.cells #[.slice ua ln2.xs.length uc, .int .i64 ln2.ls] 58)) := b7.trans (bA.mono hs7)
      have hb8 : Hid (Below wH.heap.size wH (w7.alloc (.cells #[.slice ua ln2.xs.length uc, .int .i64 ln2.ls] 58))) := hb4.trans (bW.mono hb4.size)
      replace d0 := (bW.cell (p := ⟨wb, _, none⟩) hwlt').trans d0
      replace d1 := (bW.cell (p := ⟨wb, _, none⟩) hwlt').trans d1
      replace k3 := (bW.cell (p := ⟨w.heap.size, 3, none⟩) hwl2).trans k3
      by_cases h1 : f = who
      · subst h1
        clear HRd1 hrowE hrd
        go_quiet (fail)
        go_wp2
        go_roundw
        case rel => exact ⟨r + 1, by omega, by go_num, below_dN hb8.out nq⟩
        case measure => simp [intOf]; omega
      have h1' : (f == who) = false := by simpa using h1
      have h1d : decide (f = who) = false := by simpa using h1
      have h1n : (f != who) = true := by simpa using h1
      by_cases h2 : tt = who
      · rw [h2] at d1
        clear HRd1 hrowE hrd h2
        go_quiet (fail)
        go_wp2
        go_roundw
        case rel => exact ⟨r + 1, by omega, by go_num, below_dN hb8.out nq⟩
        case measure => simp [intOf]; omega
      have h2' : (tt == who) = false := by simpa using h2
      have h2d : decide (tt = who) = false := by simpa using h2
      have h2n : (tt != who) = true := by simpa using h2
      obtain rfl := HEq.out h1 h2
      obtain ⟨hg, xa, xc, rfl, hglt, e0, e1, hrd1⟩ := HRd1.out
      have hrl2 : (r : Int) < (l.length : Int) := by omega
      replace e0 := (bW.cell (p := ⟨hg, _, none⟩) hglt).trans e0
      replace e1 := (bW.cell (p := ⟨hg, _, none⟩) hglt).trans e1
      have y0 : (w7.alloc (.cells #[.slice ua ln2.xs.length uc, .int .i64 ln2.ls] 58)).cell? ⟨w7.heap.size, 0, none⟩ = some (.slice ua ln2.xs.length uc) := by simp
      have y1 : (w7.alloc (.cells #[.slice ua ln2.xs.length uc, .int .i64 ln2.ls] 58)).cell? ⟨w7.heap.size, 1, none⟩ = some (.int .i64 ln2.ls) := by simp
      have HRa : Hid (Rd (w7.alloc (.cells #[.slice ua ln2.xs.length uc, .int .i64 ln2.ls] 58)) (.slice ua ln2.xs.length uc) ln2.xs ∧ Rd (w7.alloc (.cells #[.slice ua ln2.xs.length uc, .int .i64 ln2.ls] 58)) (.slice xa ln2.xs.length xc) ln2.xs) := ⟨hrd.block (fun k hk _ => bA.block k hk) bA.size, hrd1.block (fun k hk _ => bW.block k hk) bW.size⟩
      have hwb8 : wb < (w7.alloc (.cells #[.slice ua ln2.xs.length uc, .int .i64 ln2.ls] 58)).heap.size := Nat.lt_of_lt_of_le hwlt' bW.size
      have hhg8 : hg < (w7.alloc (.cells #[.slice ua ln2.xs.length uc, .int .i64 ln2.ls] 58)).heap.size := Nat.lt_of_lt_of_le hglt bW.size
      have hws8 : w.heap.size < (w7.alloc (.cells #[.slice ua ln2.xs.length uc, .int .i64 ln2.ls] 58)).heap.size := Nat.lt_of_lt_of_le hwl2 bW.size
      have hw78 : w7.heap.size < (w7.alloc (.cells #[.slice ua ln2.xs.length uc, .int .i64 ln2.ls] 58)).heap.size := by simp
      clear hrowE hrd hrd1 bA bW HRd1
      generalize (w7.alloc (.cells #[.slice ua ln2.xs.length uc, .int .i64 ln2.ls] 58)) = W8 at *
      have sdr : W8.drew.cell? ⟨w.heap.size, 3, none⟩ = some (.slice (some ⟨wb, wo, none⟩) p.wires.length wc') ∧ W8.drew.cell? ⟨wb, wo + r * 4, none⟩ = some (.int .i64 f) ∧ W8.drew.cell? ⟨wb, wo + r * 4 + 1, none⟩ = some (.int .i64 tt) ∧ W8.drew.cell? ⟨hg, r * 2, none⟩ = some (.slice xa ln2.xs.length xc) ∧ W8.drew.cell? ⟨hg, r * 2 + 1, none⟩ = some (.int .i64 ln2.ls) ∧ W8.drew.cell? ⟨w7.heap.size, 0, none⟩ = some (.slice ua ln2.xs.length uc) ∧ W8.drew.cell? ⟨w7.heap.size, 1, none⟩ = some (.int .i64 ln2.ls) := ⟨k3, d0, d1, e0, e1, y0, y1⟩
      have HHe : Hid (Calls Tryd.prog 16 #[.agg #[.slice ua ln2.xs.length uc, .int .i64 ln2.ls], .agg #[.slice xa ln2.xs.length xc, .int .i64 ln2.ls]] W8.drew fun e w' => e = .returned (.bool true) ∧ Below wH.heap.size wH w' ∧ w'.cell? ⟨w.heap.size, 3, none⟩ = some (.slice (some ⟨wb, wo, none⟩) p.wires.length wc') ∧ w'.cell? ⟨wb, wo + r * 4, none⟩ = some (.int .i64 f) ∧ w'.cell? ⟨wb, wo + r * 4 + 1, none⟩ = some (.int .i64 tt) ∧ w'.cell? ⟨hg, r * 2, none⟩ = some (.slice xa ln2.xs.length xc) ∧ w'.cell? ⟨hg, r * 2 + 1, none⟩ = some (.int .i64 ln2.ls) ∧ w'.cell? ⟨w7.heap.size, 0, none⟩ = some (.slice ua ln2.xs.length uc) ∧ w'.cell? ⟨w7.heap.size, 1, none⟩ = some (.int .i64 ln2.ls)) := by
        have bD : Below W8.heap.size W8 W8.drew := (Below.refl _ _).drew
        refine (wheld_any _ _ ln2.xs ln2.ls W8.drew (HRa.out.1.block (fun k hk _ => bD.block k hk) bD.size) (HRa.out.2.block (fun k hk _ => bD.block k hk) bD.size) HXl.out).mono ?_
        rintro e w' ⟨rfl, hb⟩
        have hb' : Below W8.heap.size W8 w' := bD.trans hb
        exact ⟨rfl, hb8.out.trans (hb'.mono hb8.out.size), (hb'.cell (p := ⟨w.heap.size, 3, none⟩) hws8).trans k3, (hb'.cell (p := ⟨wb, _, none⟩) hwb8).trans d0, (hb'.cell (p := ⟨wb, _, none⟩) hwb8).trans d1, (hb'.cell (p := ⟨hg, _, none⟩) hhg8).trans e0, (hb'.cell (p := ⟨hg, _, none⟩) hhg8).trans e1, (hb'.cell (p := ⟨w7.heap.size, 0, none⟩) hw78).trans y0, (hb'.cell (p := ⟨w7.heap.size, 1, none⟩) hw78).trans y1⟩
      clear HRa
      go_region_held3 (fun w' => w'.cell? ⟨w.heap.size, 3, none⟩ = some (.slice (some ⟨wb, wo, none⟩) p.wires.length wc') ∧ w'.cell? ⟨wb, wo + r * 4, none⟩ = some (.int .i64 f) ∧ w'.cell? ⟨wb, wo + r * 4 + 1, none⟩ = some (.int .i64 tt) ∧ w'.cell? ⟨hg, r * 2, none⟩ = some (.slice xa ln2.xs.length xc) ∧ w'.cell? ⟨hg, r * 2 + 1, none⟩ = some (.int .i64 ln2.ls) ∧ w'.cell? ⟨w7.heap.size, 0, none⟩ = some (.slice ua ln2.xs.length uc) ∧ w'.cell? ⟨w7.heap.size, 1, none⟩ = some (.int .i64 ln2.ls))
        (first | exact sdr | exact hq9 | go_keep)
        (first
          | (go_at_call 16; refine HHe.out.mono ?_; rintro e w9 ⟨rfl, b9, hq9⟩))
      go_wp2_with fail
      go_roundw
      case rel => exact ⟨r + 1, by omega, by go_num, b9⟩
      case measure => simp [intOf]; omega
    have hri : decide ((r : Int) < (p.wires.length : Int)) = false := decide_eq_false (by omega)
    have hrn : decide (r < p.wires.length) = false := decide_eq_false (by omega)
    replace hK2 := C.frame hK2 (KTouch.of (M := []) hb4) (by simp)
    have HKf : Hid (C.K w5 wr p (.slice ca p.code.length cc) (.slice sa p.spans.length sc) (.slice wa p.wires.length wc') (kT p (t + 1)) kb F2) := hK2
    have HBx : Hid (Bx w wr (.slice ca p.code.length cc) p.ticks (.slice sa p.spans.length sc) (.slice wa p.wires.length wc')) := hbx4
    clear hK2 hrowE hbx4 hbx3 hbx
    go_wp2
    go_roundw
    case rel => exact ⟨t + 1, F2, by omega, by go_num, HKf.out, HBx.out⟩
    case measure => simp [intOf]; omega
end Go.Proofs.YtfconbblnmbnpadDoor
namespace Go.Proofs.YtfconbblnmbnpadDoor
open Go.RowKit

theorem own_mono {w : World} {base B : Nat} {e : TypeId} {size : Nat} {v : Value} {n : Nat} {xs : List Value} (h : w.ownsRow base e size v n xs) (hB : B ≤ base) : w.ownsRow B e size v n xs := by
  refine ⟨h.1, ?_⟩
  rcases h.2 with h2 | ⟨g, cap, cur, rfl, h3, r⟩
  · exact Or.inl h2
  · exact Or.inr ⟨g, cap, cur, rfl, Nat.le_trans hB h3, r⟩
set_option maxRecDepth 100000 in
set_option maxHeartbeats 4000000 in
theorem held_any (base b : Nat) (kd dp : Int) (xs : List Int) (ls : Int) (v : Value) (w : World) (hx : xs.length ≤ 1000000) (hL : Ln w base b kd dp xs ls v) :
    Calls Tryd.prog 37 #[.pointer (some ⟨b, 0, none⟩)] w fun e w' => ∃ ao cap, e = .returned (.agg #[.slice ao xs.length cap, .int .i64 ls]) ∧ w'.ownsRow w.heap.size 3 1 (.slice ao xs.length cap) xs.length (ints xs) ∧ Below w.heap.size w w' := by
  have hlt := hL.c.lt
  have hA : Below w.heap.size w (w.alloc (.cells #[.slice none 0 0, .int .i64 0] 58)) := (Below.refl _ _).alloc (Nat.le_refl _) _
  have hcl : Calls Tryd.prog 55 #[v] (w.alloc (.cells #[.slice none 0 0, .int .i64 0] 58)).drew fun e w' => ∃ ao cap, e = .returned (.slice ao xs.length cap) ∧ w'.ownsRow (w.heap.size + 1) 3 1 (.slice ao xs.length cap) xs.length (ints xs) ∧ Below (w.heap.size + 1) (w.alloc (.cells #[.slice none 0 0, .int .i64 0] 58)) w' := by
    rcases hL.form with ⟨rfl, rfl⟩ | ⟨g, cap, rfl⟩
    · refine (clone_nil _).mono fun e w' ⟨he, hw⟩ => ?_
      subst hw
      exact ⟨_, _, he, World.ownsRow_nil _ _ _ _, (Below.refl _ _).drew⟩
    · have hcp := own_cap hL.row
      refine (clone_some g cap xs _ hx (fun i x h => ((hA.drew).cell (p := ⟨g, i, none⟩) hcp.2.1).trans (hcp.2.2.2.2.1 i x h))).mono fun e w' ⟨v', he, hr, hb⟩ => ?_
      have hr' : w'.ownsRow (w.heap.size + 1) 3 1 v' xs.length (ints xs) := by simpa using hr
      rcases row_form hr' with ⟨rfl, h0⟩ | ⟨g', cap', rfl⟩
      · exact ⟨none, 0, by rw [h0]; exact he, by rw [h0] at hr' ⊢; exact hr', (Below.refl _ _).drew.trans (by simpa using hb)⟩
      · exact ⟨_, _, he, hr', (Below.refl _ _).drew.trans (by simpa using hb)⟩
  obtain ⟨sa, sm, sc, rfl⟩ : ∃ sa sm sc, v = .slice sa sm sc := by
    rcases row_form hL.row with ⟨rfl, _⟩ | ⟨g, cap, rfl⟩
    · exact ⟨_, _, _, rfl⟩
    · exact ⟨_, _, _, rfl⟩
  obtain ⟨c0, c1, c2, c3, f2, f3⟩ := hL.c
  clear c0 c1 f2 f3 hL
  go_enter Tryd.func37, Tryd.ntmps37
  go_wp2
  go_region_with (go_at_call 55; refine hcl.mono ?_; rintro e w1 ⟨ao, cap, rfl, own1, b1⟩; have d3 : w1.cell? ⟨b, 3, none⟩ = some (.int .i64 ls) := (b1.cell (p := ⟨b, 3, none⟩) (show b < _ by omega)).trans ((hA.cell (p := ⟨b, 3, none⟩) hlt).trans c3); have e0 : w1.cell? ⟨w.heap.size, 0, none⟩ = some (.slice none 0 0) := (b1.cell (p := ⟨w.heap.size, 0, none⟩) (by simp)).trans (by simp); have e1 : w1.cell? ⟨w.heap.size, 1, none⟩ = some (.int .i64 0) := (b1.cell (p := ⟨w.heap.size, 1, none⟩) (by simp)).trans (by simp); have g0 : w1.frozen? ⟨w.heap.size, 0, none⟩ = false := (b1.frozen (p := ⟨w.heap.size, 0, none⟩) (by simp)).trans (by simp); have g1 : w1.frozen? ⟨w.heap.size, 1, none⟩ = false := (b1.frozen (p := ⟨w.heap.size, 1, none⟩) (by simp)).trans (by simp))
  all_goals (try go_wp2)
  all_goals
    refine bodyPost_ret (v := .agg #[.slice ao xs.length cap, .int .i64 ls]) (by simp [results, Tryd.results37, go_sem, e0, e1]) rfl ⟨_, _, rfl, own_mono (ownsRow_setCell_below (ownsRow_setCell_below own1 (a := ⟨w.heap.size, 0, none⟩) (Nat.lt_succ_self _) _) (a := ⟨w.heap.size, 1, none⟩) (Nat.lt_succ_self _) _) (Nat.le_succ _), ?_⟩
    exact ((hA.trans (b1.mono (Nat.le_succ _))).setCell (p := ⟨w.heap.size, 0, none⟩) (Nat.le_refl _) _).setCell (p := ⟨w.heap.size, 1, none⟩) (Nat.le_refl _) _
end Go.Proofs.YtfconbblnmbnpadDoor
namespace Go.Proofs.YtfconbblnmbnpadDoor
open Go.RowKit

theorem dheld_l (base b : Nat) (l : LnD) (u : Value) (w : World) (hx : l.xs.length ≤ 1000000) (hL : Ln w base b l.w.2.2.1 l.w.2.2.2 l.xs l.ls u) :
    Calls Tryd.prog 37 #[.pointer (some ⟨b, 0, none⟩)] w fun e w' => ∃ v, e = .returned (.agg #[v, .int .i64 l.ls]) ∧ Rd w' v l.xs ∧ (∀ g, v.ownBlock = some g → w.heap.size ≤ g ∧ g < w'.heap.size) ∧ Below w.heap.size w w' := by
  refine (held_any base b _ _ l.xs l.ls u w hx hL).mono ?_
  rintro e w' ⟨ao, cap, rfl, h1, h2⟩
  refine ⟨_, rfl, ?_, fun g hg => h1.lt g hg, h2⟩
  rcases h1.2 with ⟨h3, h4⟩ | ⟨g, cap', cur, h3, h4, h5, h6, h7, _⟩
  · rw [h3]
    exact Or.inl ⟨List.length_eq_zero_iff.1 h4, _, _, rfl⟩
  · injection h3 with e1 e2 e3
    subst e1
    subst e3
    refine Or.inr ⟨g, 0, cap, rfl, h6, h7, (Array.getElem?_eq_some_iff.1 h5).1, fun i x hx => ?_⟩
    have := h1.cells (g := g) rfl i (.int .i64 x) (ints_at hx)
    rw [Addr.add_lit] at this
    exact this
end Go.Proofs.YtfconbblnmbnpadDoor
namespace Go.Proofs.YtfconbblnmbnpadDoor
open Go.RowKit

set_option maxRecDepth 100000 in
set_option maxHeartbeats 4000000 in
theorem gwire_any (p : PD) (k : KD) (kb base : Nat) (a : GW) (i : Int) (w : World) (h : GK w base p k kb a) (hx : ∀ l ∈ k.lines, l.xs.length ≤ 1000000) :
    Calls Tryd.prog 15 #[.pointer (some ⟨kb, 0, none⟩), .int .i64 i] w fun e w' => ∃ u, e = .returned (.tuple #[.agg #[u, .int .i64 (lineK k i).ls], wErr (errB (noLine k i))]) ∧ Rd w' u (lineK k i).xs ∧ (∀ g, u.ownBlock = some g → w.heap.size ≤ g ∧ g < w'.heap.size) ∧ Below w.heap.size w w' := by
  have c4 := h.c4
  have hkb := h.lt.1
  have hnk := World.new_ne w ⟨kb, 4, none⟩ c4
  by_cases hr : 0 ≤ i ∧ i < (k.lines.length : Int)
  · obtain ⟨n, rfl⟩ : ∃ n : Nat, i = n := ⟨i.toNat, by omega⟩
    have hn : n < k.lines.length := by omega
    have hni : (n : Int) < (k.lines.length : Int) := by omega
    have hno : noLine k n = false := by
      unfold noLine
      rw [Bool.or_eq_false_iff]
      exact ⟨decide_eq_false (by omega), decide_eq_false (by omega)⟩
    obtain ⟨b, u, cap, l, hl, hb, hu, hlv, hcap, hptr, hln⟩ := h.lines.at hn
    have hlk : lineK k n = l := by
      unfold lineK
      rw [if_neg (by rw [hno]; decide), Int.toNat_natCast]
      simp [List.getD, hl]
    have hxl := hx l (List.mem_of_getElem? hl)
    rw [hlk, hno]
    rw [hlv] at c4
    have HH : Hid (∀ W, Below w.heap.size w W → Calls Tryd.prog 37 #[.pointer (some ⟨b, 0, none⟩)] W fun e w' => ∃ ao m cu, e = .returned (.agg #[.slice ao m cu, .int .i64 l.ls]) ∧ Rd w' (.slice ao m cu) l.xs ∧ (∀ g, (Value.slice ao m cu).ownBlock = some g → W.heap.size ≤ g ∧ g < w'.heap.size) ∧ Below W.heap.size W w') := fun W hb => by
      refine (dheld_l _ b l u W hxl (hln.below hb)).mono ?_
      rintro e w' ⟨v, rfl, h1, h2, h3⟩
      have hf : ∃ ao m cu, v = .slice ao m cu := by
        rcases h1 with ⟨_, ao, cu, h4⟩ | ⟨g, off, cu, h4, _⟩
        · exact ⟨_, _, _, h4⟩
        · exact ⟨_, _, _, h4⟩
      obtain ⟨ao, m, cu, rfl⟩ := hf
      exact ⟨ao, m, cu, rfl, h1, h2, h3⟩
    have hnl := World.new_ne w ⟨a.lr, n, none⟩ hptr
    have hA : Below w.heap.size w (w.alloc (.cells #[.slice none 0 0, .int .i64 0] 58)) := (Below.refl _ w).alloc (Nat.le_refl _) _
    have dl : (w.alloc (.cells #[.slice none 0 0, .int .i64 0] 58)).cell? ⟨a.lr, n, none⟩ = some (.pointer (some ⟨b, 0, none⟩)) := (hA.cell (p := ⟨a.lr, n, none⟩) (wlt hptr)).trans hptr
    have d4 : (w.alloc (.cells #[.slice none 0 0, .int .i64 0] 58)).cell? ⟨kb, 4, none⟩ = some (.slice (some ⟨a.lr, 0, none⟩) k.lines.length cap) := (hA.cell (p := ⟨kb, 4, none⟩) (wlt c4)).trans c4
    clear h hno hlk hr hx hln hl hu hb hlv
    go_enter Tryd.func15, Tryd.ntmps15
    go_upto_region 3 with (go_at_call 35; refine (kbelow_yes _ _ _ (by omega) hni).mono ?_; rintro e w1 ⟨rfl, hw1⟩; subst hw1)
    clear c4 hptr
    generalize hW : w.alloc (.cells #[.slice none 0 0, .int .i64 0] 58) = WA at hA dl d4 ⊢
    go_cut [4, 5] from 16 to 23 (fun s4 s5 wx => s4 = .pointer (some ⟨w.heap.size, 0, none⟩) ∧ s5 = .nilIface ∧ ∃ v, wx.cell? ⟨w.heap.size, 0, none⟩ = some v ∧ wx.cell? ⟨w.heap.size, 1, none⟩ = some (.int .i64 l.ls) ∧ Rd wx v l.xs ∧ (∀ g, v.ownBlock = some g → w.heap.size + 1 ≤ g ∧ g < wx.heap.size) ∧ Below w.heap.size w wx)
    case first =>
      go_wp2_with (go_at_call 37; refine (HH.out _ hA).mono ?_; rintro e w1 ⟨ao, m, cu, rfl, hrd, hown, hb1⟩; have z0 : w1.cell? ⟨w.heap.size, 0, none⟩ = some (.slice none 0 0) := (hb1.cell (p := ⟨w.heap.size, 0, none⟩) (by rw [← hW]; simp)).trans (by rw [← hW]; simp); have z1 : w1.cell? ⟨w.heap.size, 1, none⟩ = some (.int .i64 0) := (hb1.cell (p := ⟨w.heap.size, 1, none⟩) (by rw [← hW]; simp)).trans (by rw [← hW]; simp); have y0 : w1.frozen? ⟨w.heap.size, 0, none⟩ = false := (hb1.frozen (p := ⟨w.heap.size, 0, none⟩) (by rw [← hW]; simp)).trans (by rw [← hW]; simp); have y1 : w1.frozen? ⟨w.heap.size, 1, none⟩ = false := (hb1.frozen (p := ⟨w.heap.size, 1, none⟩) (by rw [← hW]; simp)).trans (by rw [← hW]; simp))
      go_meet
      case rel =>
        have hWs : WA.heap.size = w.heap.size + 1 := by rw [← hW]; simp
        rw [hWs] at hown
        refine ⟨rfl, rfl, .slice ao m cu, by simp [go_sem, z0], by simp [go_sem, z1], ?_, ?_, ?_⟩
        · refine hrd.block (fun g hg ho => ?_) (by simp)
          have := (hown g ho).1
          rw [Below.heap_setCell _ _ _ _ (show g ≠ w.heap.size by omega), Below.heap_setCell _ _ _ _ (show g ≠ w.heap.size by omega)]
        · simpa using hown
        · exact ((hA.trans (hb1.mono (by omega))).setCell (p := ⟨w.heap.size, 0, none⟩) (by simp) _).setCell (p := ⟨w.heap.size, 1, none⟩) (by simp) _
    case rest =>
      obtain ⟨rfl, rfl, v, z0, z1, hrd, hown, hbl⟩ := hcut
      go_wp2
      refine bodyPost_ret (v := .tuple #[.agg #[v, .int .i64 l.ls], wErr (errB false)]) ?_ rfl ⟨v, rfl, hrd, fun g hg => ⟨by have := (hown g hg).1; omega, (hown g hg).2⟩, hbl⟩
      simp [results, Tryd.results15, go_sem, z0, z1, wErr, errB]
  · have hno : noLine k i = true := by
      unfold noLine
      rw [Bool.or_eq_true]
      by_cases h0 : i < 0
      · exact Or.inl (decide_eq_true h0)
      · exact Or.inr (decide_eq_true (by omega))
    have hlk : lineK k i = LnD.none := by
      unfold lineK
      rw [if_pos hno]
    have hform : ∃ ao cap, a.lv = .slice ao k.lines.length cap := by
      rcases h.lines.lv with ⟨h1, h2⟩ | ⟨cap, h1, _⟩
      · exact ⟨none, 0, by rw [h2, h1]; rfl⟩
      · exact ⟨_, cap, h1⟩
    obtain ⟨ao, cap, hlv⟩ := hform
    rw [hlk, hno]
    rw [hlv] at c4
    clear h hno hlk hlv hx
    go_enter Tryd.func15, Tryd.ntmps15
    go_wp2_with (go_at_call 35; refine (kbelow_no _ _ _ hr).mono ?_; rintro e w1 ⟨rfl, hw1⟩; subst hw1)
    refine bodyPost_ret (v := .tuple #[.agg #[.slice none 0 0, .int .i64 LnD.none.ls], wErr (errB true)]) ?_ rfl ⟨.slice none 0 0, rfl, Or.inl ⟨rfl, _, _, rfl⟩, fun g hg => (by simp [Value.ownBlock] at hg), ?_⟩
    · simp [results, Tryd.results15, go_sem, LnD.none, wErr, errB]
    · repeat' first | exact Below.refl _ _ | refine Below.drew ?_ | refine Below.alloc ?_ (by simp <;> omega) _ | refine Below.setCell ?_ (by simp <;> omega) _
end Go.Proofs.YtfconbblnmbnpadDoor
namespace Go.Proofs.YtfconbblnmbnpadDoor
open Go.RowKit

theorem lines_short {p : PD} {k : KD} (hk : KOk p k) (hp : plchk p = 0) : ∀ l ∈ k.lines, l.xs.length ≤ 1000000 := fun l hl => by
  obtain ⟨i, hi⟩ := List.mem_iff_getElem?.1 hl
  have hlt := (List.getElem?_eq_some_iff.1 hi).1
  have hx : p.wires[i]? = some (p.wires[i]'(by rw [← hk.ll]; exact hlt)) := List.getElem?_eq_getElem _
  have hlo := hk.lines i l _ hi hx
  rcases wchk_kind ((wschk_ok (plchk_zero hp).2.2.2.1).2 _ (List.mem_of_getElem? hx)) with ⟨h1, _⟩ | ⟨h1, h2, h3⟩
  · have := hlo.one h1
    omega
  · have := hlo.deep h1
    omega
theorem gker_wire {G : World → Prop} (hG : ∀ w, G w → Forms w) (hall : ∀ w w', G w → Below w.heap.size w w' → G w') : KerWire (gker hG hall) := fun {_ W p _ _ _ k kb _} i ⟨a, h, _, _⟩ hk hp => gwire_any p k kb _ a i W h (lines_short hk hp)
end Go.Proofs.YtfconbblnmbnpadDoor
