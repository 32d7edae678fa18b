/-
  KTouchL, KVal, KerC, POpen, PortL, St8, CloneOp, GClone, KSet, StFz, SgtMath, PurgeM, CareM, StRow, Blk4, CarC, KerPoke, RLaid, StBL, FHold: joined into one text.
-/
import Derived.Test.YtfconbblnmbnpafGreatDoorJa1
import Derived.Lib.SmallJoins
import Derived.Deep.Slices
import Derived.Deep.RegionLaw
import Derived.Deep.RegionWith
import Derived.Lib.SliceRun
import Derived.Deep.MidRow
import Derived.ProofKit
import Derived.LaidMore
import Derived.OpenShut
import Derived.Stop.Joined
import Derived.Stop.LaidErr
import Derived.Lib.LaidTab
namespace Go.Proofs.YtfconbblnmbnpafGreatDoor
open Go.RowKit

/-- What a call leaves alone: all blocks that were there, but those that are named. -/
structure KTouch (M : List Nat) (w w' : World) : Prop where
  os : w'.os = w.os
  tape : w'.tape = w.tape
  output : w'.output = w.output
  size : w.heap.size ≤ w'.heap.size
  block : ∀ k, k < w.heap.size → k ∉ M → w'.heap[k]? = w.heap[k]?
theorem KTouch.refl (M : List Nat) (w : World) : KTouch M w w := ⟨rfl, rfl, rfl, Nat.le_refl _, fun _ _ _ => rfl⟩
theorem KTouch.trans {M : List Nat} {a b c : World} (h : KTouch M a b) (g : KTouch M b c) : KTouch M a c :=
  ⟨g.os.trans h.os, g.tape.trans h.tape, g.output.trans h.output, Nat.le_trans h.size g.size, fun k hk hm => (g.block k (Nat.lt_of_lt_of_le hk h.size) hm).trans (h.block k hk hm)⟩
theorem KTouch.of {M : List Nat} {w w' : World} (h : Below w.heap.size w w') : KTouch M w w' := ⟨h.os, h.tape, h.output, h.size, fun k hk _ => h.block k hk⟩
theorem KTouch.set {M : List Nat} (w : World) {b : Nat} (hb : b ∈ M) (i : Nat) (v : Value) : KTouch M w (w.setCell ⟨b, i, none⟩ v) :=
  ⟨rfl, rfl, rfl, by simp, fun k _ hm => Below.heap_setCell _ _ _ _ (fun e => hm (by rw [show k = b from e]; exact hb))⟩
theorem KTouch.below {M : List Nat} {w w' : World} (h : KTouch M w w') {B : Nat} (hB : ∀ b ∈ M, B ≤ b) (hw : B ≤ w.heap.size) : Below B w w' :=
  ⟨h.os, h.tape, h.output, h.size, fun k hk => h.block k (by omega) (fun hm => by have := hB k hm; omega)⟩
theorem KTouch.drew {M : List Nat} {w w' : World} (h : KTouch M w w') : KTouch M w w'.drew := h.trans (KTouch.of (Below.refl _ _).drew)
theorem KTouch.more {M M' : List Nat} {w w' w'' : World} (h : KTouch M w w') (g : KTouch M' w' w'') (hn : ∀ m ∈ M', w.heap.size ≤ m) : KTouch M w w'' :=
  ⟨g.os.trans h.os, g.tape.trans h.tape, g.output.trans h.output, Nat.le_trans h.size g.size, fun k hk hm => (g.block k (Nat.lt_of_lt_of_le hk h.size) (fun hm' => by have := hn k hm'; omega)).trans (h.block k hk hm)⟩
theorem KTouch.mono {M M' : List Nat} {w w' : World} (h : KTouch M w w') (hm : ∀ m ∈ M, m ∈ M') : KTouch M' w w' := ⟨h.os, h.tape, h.output, h.size, fun k hk hn => h.block k hk (fun h2 => hn (hm k h2))⟩
/-- The cells of a state. -/
structure StC (w : World) (b o : Nat) (s : St) : Prop where
  p : w.cell? ⟨b, o, none⟩ = some (.int .i64 s.p)
  c0 : w.cell? ⟨b, o + 1, none⟩ = some (.int .i64 (s.c 0))
  c1 : w.cell? ⟨b, o + 2, none⟩ = some (.int .i64 (s.c 1))
  c2 : w.cell? ⟨b, o + 3, none⟩ = some (.int .i64 (s.c 2))
  c3 : w.cell? ⟨b, o + 4, none⟩ = some (.int .i64 (s.c 3))
  c4 : w.cell? ⟨b, o + 5, none⟩ = some (.int .i64 (s.c 4))
  c5 : w.cell? ⟨b, o + 6, none⟩ = some (.int .i64 (s.c 5))
  f : w.cell? ⟨b, o + 7, none⟩ = some (.bool s.f)
theorem StC.block {w w' : World} {b o : Nat} {s : St} (h : StC w b o s) (hb : w'.heap[b]? = w.heap[b]?) : StC w' b o s := by
  have hc := fun i => World.cell?_of_block (w := w) (w' := w') (a := ⟨b, i, none⟩) hb
  exact ⟨(hc _).trans h.p, (hc _).trans h.c0, (hc _).trans h.c1, (hc _).trans h.c2, (hc _).trans h.c3, (hc _).trans h.c4, (hc _).trans h.c5, (hc _).trans h.f⟩
/-- A cell is another number. -/
def pokeS (s : St) (c : Nat) (n : Int) : St := ⟨s.p, fun i => if i = c then n else s.c i, s.f⟩
/-- What is wrong with a poke. -/
def pokeB (k : KD) (r c n : Int) : Bool := decide (r < 0) || decide ((k.rooms.length : Int) ≤ r) || decide (c < 0) || decide (5 < c) || decide (n < 0) || decide (999 < n)
/-- .. as a number. -/
def pokeN (k : KD) (r c n : Int) : Int := if pokeB k r c n = true then 1 else 0
def pokeK (k : KD) (r c n : Int) : KD := if pokeB k r c n = true then k else ⟨k.rooms.set r.toNat (pokeS (k.rooms.getD r.toNat stNew) c.toNat n), k.lines, k.time⟩
theorem pokeB_false {k : KD} {r c n : Int} (h : pokeB k r c n = false) : 0 ≤ r ∧ r < k.rooms.length ∧ 0 ≤ c ∧ c ≤ 5 ∧ 0 ≤ n ∧ n ≤ 999 := by
  unfold pokeB at h
  simp only [Bool.or_eq_false_iff, decide_eq_false_iff_not] at h
  omega
theorem pokeS_ok {s : St} {m : Nat} (h : stOk s m = true) {c : Nat} {n : Int} (hn : 0 ≤ n ∧ n ≤ 999) : stOk (pokeS s c n) m = true := by
  obtain ⟨h1, h2, h3⟩ := stOk_iff.1 h
  refine stOk_iff.2 ⟨h1, h2, fun i hi => ?_⟩
  show 0 ≤ (if i = c then n else s.c i) ∧ (if i = c then n else s.c i) ≤ 999
  split
  · exact hn
  · exact h3 i hi
theorem poke_ok {p : PD} {k : KD} (hk : KOk p k) (r c n : Int) : KOk p (pokeK k r c n) := by
  unfold pokeK
  cases hb : pokeB k r c n with
  | true => rw [if_pos rfl]; exact hk
  | false =>
    rw [if_neg (by decide)]
    obtain ⟨h0, h1, h2, h3, h4, h5⟩ := pokeB_false hb
    refine ⟨by simp only [List.length_set]; exact hk.rl, hk.ll, fun i c' s hc hs => ?_, hk.lines, hk.lost, hk.time⟩
    simp only at hs
    by_cases hij : r.toNat = i
    · subst hij
      have hlt : r.toNat < k.rooms.length := by omega
      rw [List.getElem?_set_self hlt] at hs
      obtain rfl := Option.some.inj hs
      have hs0 : k.rooms[r.toNat]? = some k.rooms[r.toNat] := List.getElem?_eq_getElem hlt
      rw [show k.rooms.getD r.toNat stNew = k.rooms[r.toNat] by simp [List.getD, hs0]]
      exact pokeS_ok (hk.rooms _ _ _ hc hs0) ⟨h4, h5⟩
    · rw [List.getElem?_set_ne hij] at hs
      exact hk.rooms i c' s hc hs
end Go.Proofs.YtfconbblnmbnpafGreatDoor
namespace Go.Proofs.YtfconbblnmbnpafGreatDoor
open Go.RowKit

/-- A state as a value. -/
def stA (s : St) : Value := .agg #[.int .i64 s.p, .int .i64 (s.c 0), .int .i64 (s.c 1), .int .i64 (s.c 2), .int .i64 (s.c 3), .int .i64 (s.c 4), .int .i64 (s.c 5), .bool s.f]
/-- An event as a value. -/
def evA (e : Int × Int × Int × Int) : Value := .agg #[.int .i64 e.1, .int .i64 e.2.1, .int .i64 e.2.2.1, .int .i64 e.2.2.2]
def errB (b : Bool) : Int := if b = true then 1 else 0
/-- A room of a kernel, and whether there is one. -/
def noRoom (k : KD) (r : Int) : Bool := decide (r < 0) || decide ((k.rooms.length : Int) ≤ r)
def roomK (k : KD) (r : Int) : St := if noRoom k r = true then stNew else k.rooms.getD r.toNat stNew
/-- A line of a kernel, and whether there is one. -/
def noLine (k : KD) (i : Int) : Bool := decide (i < 0) || decide ((k.lines.length : Int) ≤ i)
def lineK (k : KD) (i : Int) : LnD := if noLine k i = true then LnD.none else k.lines.getD i.toNat LnD.none
end Go.Proofs.YtfconbblnmbnpafGreatDoor
namespace Go.Proofs.YtfconbblnmbnpafGreatDoor
open Go.RowKit

/-- What package kernel does, in every world of a kind: K w0 w p vc vs vw k kb F: made in the world w0, of the plan p that lay there, a kernel lies at block kb; it is k, and all that it has lies in the blocks F. -/
structure KerC (G : World → Prop) where
  K : World → World → PD → Value → Value → Value → KD → Nat → List Nat → Prop
  all : ∀ w w', G w → Below w.heap.size w w' → G w'
  since : ∀ {w0 w p vc vs vw k kb F}, K w0 w p vc vs vw k kb F → Below w0.heap.size w0 w
  ge : ∀ {w0 w p vc vs vw k kb F}, K w0 w p vc vs vw k kb F → ∀ g ∈ F, w0.heap.size ≤ g ∧ g < w.heap.size
  lower : ∀ {w1 w0 w p vc vs vw k kb F}, Below w1.heap.size w1 w0 → K w0 w p vc vs vw k kb F → K w1 w p vc vs vw k kb F
  frame : ∀ {w0 w w' p vc vs vw k kb F M}, K w0 w p vc vs vw k kb F → KTouch M w w' → (∀ m ∈ M, m ∉ F ∧ w0.heap.size ≤ m) → K w0 w' p vc vs vw k kb F
  new : ∀ (p : PD) (vc vs vw : Value) (W : World), G W → Pln W vc vs vw p → plchk p = 0 → Calls Tryz.prog 18 #[plV vc p.ticks vs vw] W fun e w' => ∃ kb F, e = .returned (.tuple #[.pointer (some ⟨kb, 0, none⟩), .nilIface]) ∧ K W w' p vc vs vw (newK p) kb F
  no : ∀ (p : PD) (vc vs vw : Value) (W : World), G W → Pln W vc vs vw p → plchk p ≠ 0 → Calls Tryz.prog 18 #[plV vc p.ticks vs vw] W fun e w' => ∃ x, e = .returned (.tuple #[.pointer x, wErr (plchk p)]) ∧ Below W.heap.size W w'
  tick : ∀ {w0 W p vc vs vw k kb F}, G w0 → K w0 W p vc vs vw k kb F → plchk p = 0 → KOk p k → k.time < 100000000 → Calls Tryz.prog 25 #[.pointer (some ⟨kb, 0, none⟩)] W fun e w' => e = .returned (evA (tickK p p.spans k).2) ∧ ∃ F', K w0 w' p vc vs vw (tickK p p.spans k).1 kb F' ∧ KTouch F W w' ∧ ∀ g ∈ F', g ∈ F ∨ W.heap.size ≤ g
  state : ∀ {w0 W p vc vs vw k kb F} (r : Int), K w0 W p vc vs vw k kb F → KOk p k → plchk p = 0 → Calls Tryz.prog 28 #[.pointer (some ⟨kb, 0, none⟩), .int .i64 r] W fun e w' => e = .returned (.tuple #[stA (roomK k r), wErr (errB (noRoom k r))]) ∧ Below W.heap.size W w'
end Go.Proofs.YtfconbblnmbnpafGreatDoor
namespace Go.Proofs.YtfconbblnmbnpafGreatDoor
open Go.ChangeShapes Go.WideShapes Go.ChangeAt Go.WideElems Go.RowKit Go.Deep

theorem pk_spot {W : World} {a : Addr} {v : Value} (h : W.cell? a = some v) : a = ⟨a.block, a.off, none⟩ ∧ a.block < W.heap.size := by
  obtain ⟨b, o, s⟩ := a
  unfold World.cell? at h
  simp only at h
  cases hb : W.heap[b]? with
  | none => rw [hb] at h; cases h
  | some x =>
    rw [hb] at h
    refine ⟨?_, (Array.getElem?_eq_some_iff.1 hb).1⟩
    cases x <;> simp at h
    cases s with
    | none => rfl
    | some s => simp at h
theorem pk_lt {α : Type} [Inhabited α] {p : Nat → α → Prop} {n : Nat} (h : ∀ i, i < n → ∃ x, p i x) : ∃ f : Nat → α, ∀ i, i < n → p i (f i) := by
  refine ⟨fun i => if hi : i < n then (h i hi).choose else default, fun i hi => ?_⟩
  simp only [hi, dif_pos]
  exact (h i hi).choose_spec
/-- A slice read as data, at the level of its cell. -/
theorem pk_slice {α : Type} [Inhabited α] {H : Type} {enc : TypeId × Value → H} {P : Program} {W : World} {base : Nat} {sp : Nat → Bool} {held : Bool} {fuel : Nat} {cs : List Value} {x : DataW H × List MemPlace} {t e : TypeId} {k : Nat}
    (ht : P.underlying t = some (.slice e)) (hk : P.cellsOf e = k) (hk0 : 0 < k) (R : List Value → α → Prop)
    (hel : ∀ (n : Nat) (cs : List Value) (x : DataW H × List MemPlace), DataW.trod enc P W base sp held n e cs = some x → ∃ o, R cs o)
    (h : DataW.trod enc P W base sp held fuel t cs = some x) :
    ∃ a len cap, cs = [.slice a len cap] ∧ (len = 0 ∨ ∃ b off, a = some ⟨b, off, none⟩ ∧ len ≤ cap ∧ b < W.heap.size ∧ ∃ l : List α, l.length = len ∧ ∀ i o, l[i]? = some o → ∃ us, us.length = k ∧ R us o ∧ ∀ j, j < k → W.cell? ⟨b, off + i * k + j, none⟩ = us[j]?) := by
  rcases open_slice ht h with ⟨rfl, _⟩ | ⟨a, len, cap, m, n, D, Pl, rfl, _, hl, _, hm, _, he⟩
  · exact ⟨none, 0, 0, rfl, Or.inl rfl⟩
  · refine ⟨some a, len, cap, rfl, ?_⟩
    have hlm : len ≤ m := by rw [hm]; split <;> omega
    by_cases h0 : len = 0
    · exact Or.inl h0
    · rw [hk] at he
      obtain ⟨F, hF⟩ := pk_lt (α := α × List Value) (p := fun i o => o.2.length = k ∧ R o.2 o.1 ∧ ∀ j, j < k → W.cell? ((a.add (i * k)).add j) = o.2[j]?) (n := len) (fun i hi => by
        obtain ⟨us, h1, h2⟩ := he i (by omega)
        obtain ⟨o, ho⟩ := hel _ _ _ h2
        obtain ⟨_, h3, h4⟩ := World.cells?_some h1
        exact ⟨(o, us), h3, ho, h4⟩)
      obtain ⟨l0, _, c0⟩ := hF 0 (by omega)
      have hz := c0 0 hk0
      rw [show (a.add (0 * k)).add 0 = a from by simp [Addr.add], List.getElem?_eq_getElem (by omega)] at hz
      obtain ⟨ha, hlt⟩ := pk_spot hz
      refine Or.inr ⟨a.block, a.off, by rw [← ha], hl, hlt, (List.range len).map (fun i => (F i).1), by simp, fun i o ho => ?_⟩
      have hi : i < len := by
        have := (List.getElem?_eq_some_iff.1 ho).1
        simpa using this
      have hoi : (F i).1 = o := by simpa [hi] using ho
      obtain ⟨h1, h2, h3⟩ := hF i hi
      refine ⟨(F i).2, h1, hoi ▸ h2, fun j hj => ?_⟩
      have := h3 j hj
      rw [ha] at this
      simp only [Addr.add_lit] at this
      exact this
theorem pcInt : Tryz.prog.cellsOf 3 = 1 := by kernel_rfl
theorem pcOp : Tryz.prog.cellsOf 89 = 3 := by kernel_rfl
theorem pcSpan : Tryz.prog.cellsOf 61 = 3 := by kernel_rfl
theorem pcWire : Tryz.prog.cellsOf 63 = 4 := by kernel_rfl
theorem pcOps : Tryz.prog.cellsOf 65 = 1 := by kernel_rfl
section
variable {H : Type} {enc : TypeId × Value → H} {W : World} {base : Nat} {sp : Nat → Bool} {held : Bool}
set_option maxRecDepth 100000 in
theorem pk_op (n : Nat) (cs : List Value) (x : DataW H × List MemPlace) (h : DataW.trod enc Tryz.prog W base sp held n 89 cs = some x) : ∃ o : O3, cs = [.int .i64 o.1, .int .i64 o.2.1, .int .i64 o.2.2] := by
  obtain ⟨y0, y1, y2, n, _, hl, h0, h1, h2⟩ := trod_struct3 Tryz.underlying89 h
  rw [pcOp] at hl
  match cs, hl with
  | [c0, c1, c2], _ =>
    simp only [pcInt] at h0 h1 h2
    simp at h0 h1 h2
    obtain ⟨n, e0, _, _⟩ := DataW.trod_int Tryz.underlying3 h0
    obtain ⟨a, e1, _, _⟩ := DataW.trod_int Tryz.underlying3 h1
    obtain ⟨b, e2, _, _⟩ := DataW.trod_int Tryz.underlying3 h2
    simp only [List.cons.injEq, and_true] at e0 e1 e2
    subst e0; subst e1; subst e2
    exact ⟨(n, a, b), rfl⟩
set_option maxRecDepth 100000 in
theorem pk_span (n : Nat) (cs : List Value) (x : DataW H × List MemPlace) (h : DataW.trod enc Tryz.prog W base sp held n 61 cs = some x) : ∃ o : S3, cs = [.int .i64 o.1, .int .i64 o.2.1, .int .i64 o.2.2] := by
  obtain ⟨y0, y1, y2, n, _, hl, h0, h1, h2⟩ := trod_struct3 Tryz.underlying61 h
  rw [pcSpan] at hl
  match cs, hl with
  | [c0, c1, c2], _ =>
    simp only [pcInt] at h0 h1 h2
    simp at h0 h1 h2
    obtain ⟨n, e0, _, _⟩ := DataW.trod_int Tryz.underlying3 h0
    obtain ⟨a, e1, _, _⟩ := DataW.trod_int Tryz.underlying3 h1
    obtain ⟨b, e2, _, _⟩ := DataW.trod_int Tryz.underlying3 h2
    simp only [List.cons.injEq, and_true] at e0 e1 e2
    subst e0; subst e1; subst e2
    exact ⟨(n, a, b), rfl⟩
set_option maxRecDepth 100000 in
theorem pk_wire (n : Nat) (cs : List Value) (x : DataW H × List MemPlace) (h : DataW.trod enc Tryz.prog W base sp held n 63 cs = some x) : ∃ o : W4, cs = [.int .i64 o.1, .int .i64 o.2.1, .int .i64 o.2.2.1, .int .i64 o.2.2.2] := by
  obtain ⟨y0, y1, y2, y3, n, _, hl, h0, h1, h2, h3⟩ := Joins.trod_struct4 Tryz.underlying63 h
  rw [pcWire] at hl
  match cs, hl with
  | [c0, c1, c2, c3], _ =>
    simp only [pcInt] at h0 h1 h2 h3
    simp at h0 h1 h2 h3
    obtain ⟨n, e0, _, _⟩ := DataW.trod_int Tryz.underlying3 h0
    obtain ⟨a, e1, _, _⟩ := DataW.trod_int Tryz.underlying3 h1
    obtain ⟨b, e2, _, _⟩ := DataW.trod_int Tryz.underlying3 h2
    obtain ⟨c, e3, _, _⟩ := DataW.trod_int Tryz.underlying3 h3
    simp only [List.cons.injEq, and_true] at e0 e1 e2 e3
    subst e0; subst e1; subst e2; subst e3
    exact ⟨(n, a, b, c), rfl⟩
theorem pk_ops (n : Nat) (cs : List Value) (x : DataW H × List MemPlace) (h : DataW.trod enc Tryz.prog W base sp held n 65 cs = some x) : ∃ l : List O3, ∃ u, cs = [u] ∧ Ops W u l := by
  obtain ⟨a, len, cap, rfl, hr⟩ := pk_slice (α := O3) Tryz.underlying65 pcOp (by decide) (fun cs o => cs = [.int .i64 o.1, .int .i64 o.2.1, .int .i64 o.2.2]) pk_op h
  rcases hr with rfl | ⟨b, off, rfl, _, hlt, l, rfl, hl⟩
  · exact ⟨[], _, rfl, Or.inl ⟨rfl, _, _, rfl⟩⟩
  · refine ⟨l, _, rfl, Or.inr ⟨b, off, cap, rfl, hlt, fun i o ho => ?_⟩⟩
    obtain ⟨us, _, rfl, hc⟩ := hl i o ho
    exact ⟨hc 0 (by omega), hc 1 (by omega), hc 2 (by omega)⟩
theorem pk_sps (n : Nat) (cs : List Value) (x : DataW H × List MemPlace) (h : DataW.trod enc Tryz.prog W base sp held n 23 cs = some x) : ∃ l : List S3, ∃ u, cs = [u] ∧ Sps W u l := by
  obtain ⟨a, len, cap, rfl, hr⟩ := pk_slice (α := S3) Tryz.underlying23 pcSpan (by decide) (fun cs o => cs = [.int .i64 o.1, .int .i64 o.2.1, .int .i64 o.2.2]) pk_span h
  rcases hr with rfl | ⟨b, off, rfl, hcap, hlt, l, rfl, hl⟩
  · exact ⟨[], _, rfl, Or.inl ⟨rfl, _, _, rfl⟩⟩
  · refine ⟨l, _, rfl, Or.inr ⟨b, off, cap, rfl, hcap, hlt, fun i o ho => ?_⟩⟩
    obtain ⟨us, _, rfl, hc⟩ := hl i o ho
    exact ⟨hc 0 (by omega), hc 1 (by omega), hc 2 (by omega)⟩
theorem pk_wrs (n : Nat) (cs : List Value) (x : DataW H × List MemPlace) (h : DataW.trod enc Tryz.prog W base sp held n 24 cs = some x) : ∃ l : List W4, ∃ u, cs = [u] ∧ Wrs W u l := by
  obtain ⟨a, len, cap, rfl, hr⟩ := pk_slice (α := W4) Tryz.underlying24 pcWire (by decide) (fun cs o => cs = [.int .i64 o.1, .int .i64 o.2.1, .int .i64 o.2.2.1, .int .i64 o.2.2.2]) pk_wire h
  rcases hr with rfl | ⟨b, off, rfl, hcap, hlt, l, rfl, hl⟩
  · exact ⟨[], _, rfl, Or.inl ⟨rfl, _, _, rfl⟩⟩
  · refine ⟨l, _, rfl, Or.inr ⟨b, off, cap, rfl, hcap, hlt, fun i o ho => ?_⟩⟩
    obtain ⟨us, _, rfl, hc⟩ := hl i o ho
    exact ⟨hc 0 (by omega), hc 1 (by omega), hc 2 (by omega), hc 3 (by omega)⟩
theorem pk_cds (n : Nat) (cs : List Value) (x : DataW H × List MemPlace) (h : DataW.trod enc Tryz.prog W base sp held n 22 cs = some x) : ∃ l : List (List O3), ∃ u, cs = [u] ∧ Cds W u l := by
  obtain ⟨a, len, cap, rfl, hr⟩ := pk_slice (α := List O3) Tryz.underlying22 pcOps (by decide) (fun cs l => ∃ u, cs = [u] ∧ Ops W u l) pk_ops h
  rcases hr with rfl | ⟨b, off, rfl, hcap, hlt, l, rfl, hl⟩
  · exact ⟨[], _, rfl, Or.inl ⟨rfl, _, _, rfl⟩⟩
  · refine ⟨l, _, rfl, Or.inr ⟨b, off, cap, rfl, hcap, hlt, fun i c hc => ?_⟩⟩
    obtain ⟨us, _, ⟨u, rfl, hu⟩, hc⟩ := hl i c hc
    have := hc 0 (by omega)
    exact ⟨u, by simpa using this, hu⟩
set_option maxRecDepth 100000 in
/-- A plan that came in. -/
theorem open_plan {b0 : Nat} {r : Reach} {v : Value} {d : DataW H} {p : List MemPlace} (hv : Value.okWide Tryz.prog W r b0 26 v)
    (h : DataW.Trod enc Tryz.prog W base sp held 26 v d p) : ∃ (vc vs vw : Value) (p : PD), v = plV vc p.ticks vs vw ∧ Pln W vc vs vw p := by
  obtain ⟨v0, v1, v2, v3, y0, y1, y2, y3, m, rfl, _, _, h0, h1, h2, h3⟩ := Joins.open_agg4 Tryz.underlying26 (by kernel_rfl) (by kernel_rfl) hv h
  obtain ⟨cs, u0, e0, g0⟩ := pk_cds _ _ _ h0
  obtain ⟨n, e1, _, _⟩ := DataW.trod_int Tryz.underlying3 h1
  obtain ⟨ss, u2, e2, g2⟩ := pk_sps _ _ _ h2
  obtain ⟨ws, u3, e3, g3⟩ := pk_wrs _ _ _ h3
  simp only [List.cons.injEq, and_true] at e0 e1 e2 e3
  subst e0; subst e1; subst e2; subst e3
  exact ⟨_, _, _, ⟨cs, n, ss, ws⟩, rfl, g0, g2, g3⟩
end
end Go.Proofs.YtfconbblnmbnpafGreatDoor
namespace Go.Proofs.YtfconbblnmbnpafGreatDoor
open Go.RowKit

/-- The ports of a room, one kind of them, as they are gone over. -/
theorem ports_bad {at' : W4 → Int} {ws : List W4} {i : Nat} {zs : List Int} {k : Nat} {z : Int} (hz : zs[k]? = some z) (h : portB at' ws i z = true) : zs.any (portB at' ws i) = true := any_hit hz h
theorem wires_mem {what : Int} {c : List O3} {z : Int} (h : z ∈ wiresB what c) : 0 ≤ z ∧ z < 12 := by
  unfold wiresB pickN at h
  simp only [List.mem_map, List.mem_filter, List.mem_range'_1] at h
  obtain ⟨a, ⟨⟨_, h2⟩, _⟩, rfl⟩ := h
  simp
  omega
theorem port_out {ws : List W4} {i : Nat} {c : List O3} (h : (wiresB 8 c).any (portB (·.1) ws i) = true) : portsB ws i c = true := by unfold portsB; rw [h]; rfl
theorem port_in {ws : List W4} {i : Nat} {c : List O3} (h : (wiresB 9 c).any (portB (·.2.1) ws i) = true) : portsB ws i c = true := by unfold portsB; rw [h, Bool.or_true]
theorem ports_next {ws : List W4} {l : List (List O3)} {k : Nat} {c : List O3} (h : ∀ (j : Nat) y, j < k → l[j]? = some y → portsB ws j y = false) (hx : l[k]? = some c) (hf : portsB ws k c = false) : ∀ (j : Nat) y, j < k + 1 → l[j]? = some y → portsB ws j y = false := fun j y hj hy => by
  by_cases hjk : j < k
  · exact h j y hjk hy
  · obtain rfl : j = k := by omega
    rw [hx] at hy
    obtain rfl := Option.some.inj hy
    exact hf
theorem stp_of_ints {w : World} {v : Value} {zs : List Int} (h : Ints w v zs) : Stp w v zs := by
  rcases h with ⟨rfl, rfl⟩ | ⟨a, cap, rfl, ha, hc⟩
  · exact Or.inl ⟨rfl, _, _, rfl⟩
  · cases zs with
    | nil => exact Or.inl ⟨rfl, _, _, rfl⟩
    | cons z zs =>
      have h0 := hc 0 z rfl
      have ea : a = ⟨a.block, a.off, none⟩ := by
        obtain ⟨b, o, s⟩ := a
        cases s with
        | none => rfl
        | some s =>
          exfalso
          unfold Addr.add at h0
          simp [World.cell?] at h0
          split at h0 <;> simp at h0
      refine Or.inr ⟨a.block, a.off, cap, by rw [← ea], ha, fun i x hx => ?_⟩
      have := hc i x hx
      rw [ea, Addr.add_lit] at this
      exact this
end Go.Proofs.YtfconbblnmbnpafGreatDoor
namespace Go.Proofs.YtfconbblnmbnpafGreatDoor
open Go.RowKit

theorem below_st8 {B : Nat} {w w' : World} (h : Below B w w') (b : Nat) (hb : B ≤ b) (x0 x1 x2 x3 x4 x5 x6 x7 : Value) : Below B w ((((((((w'.setCell ⟨b, 0, none⟩ x0).setCell ⟨b, 1, none⟩ x1).setCell ⟨b, 2, none⟩ x2).setCell ⟨b, 3, none⟩ x3).setCell ⟨b, 4, none⟩ x4).setCell ⟨b, 5, none⟩ x5).setCell ⟨b, 6, none⟩ x6).setCell ⟨b, 7, none⟩ x7) :=
  (((((((h.setCell (p := ⟨b, 0, none⟩) hb x0).setCell (p := ⟨b, 1, none⟩) hb x1).setCell (p := ⟨b, 2, none⟩) hb x2).setCell (p := ⟨b, 3, none⟩) hb x3).setCell (p := ⟨b, 4, none⟩) hb x4).setCell (p := ⟨b, 5, none⟩) hb x5).setCell (p := ⟨b, 6, none⟩) hb x6).setCell (p := ⟨b, 7, none⟩) hb x7
/-- A state is written into a new block. -/
theorem zst_set {w : World} {b : Nat} (h : w.heap[b]? = some (.cells #[.int .i64 0, .int .i64 0, .int .i64 0, .int .i64 0, .int .i64 0, .int .i64 0, .int .i64 0, .bool false] 47)) (s : St) : ((((((((w.setCell ⟨b, 0, none⟩ (.int .i64 s.p)).setCell ⟨b, 1, none⟩ (.int .i64 (s.c 0))).setCell ⟨b, 2, none⟩ (.int .i64 (s.c 1))).setCell ⟨b, 3, none⟩ (.int .i64 (s.c 2))).setCell ⟨b, 4, none⟩ (.int .i64 (s.c 3))).setCell ⟨b, 5, none⟩ (.int .i64 (s.c 4))).setCell ⟨b, 6, none⟩ (.int .i64 (s.c 5))).setCell ⟨b, 7, none⟩ (.bool s.f)).heap[b]? = some (.cells #[.int .i64 s.p, .int .i64 (s.c 0), .int .i64 (s.c 1), .int .i64 (s.c 2), .int .i64 (s.c 3), .int .i64 (s.c 4), .int .i64 (s.c 5), .bool s.f] 47) := by
  simp [World.setCell, Array.getElem?_modify, h]
theorem touch_st (w : World) (b : Nat) (x0 x1 x2 x3 x4 x5 x6 x7 : Value) : KTouch [b] w ((((((((w.setCell ⟨b, 2, none⟩ x0).setCell ⟨b, 3, none⟩ x1).setCell ⟨b, 4, none⟩ x2).setCell ⟨b, 5, none⟩ x3).setCell ⟨b, 6, none⟩ x4).setCell ⟨b, 7, none⟩ x5).setCell ⟨b, 8, none⟩ x6).setCell ⟨b, 9, none⟩ x7) :=
  have hm : b ∈ [b] := by simp
  (((((((KTouch.set w hm 2 x0).trans (KTouch.set _ hm 3 x1)).trans (KTouch.set _ hm 4 x2)).trans (KTouch.set _ hm 5 x3)).trans (KTouch.set _ hm 6 x4)).trans (KTouch.set _ hm 7 x5)).trans (KTouch.set _ hm 8 x6)).trans (KTouch.set _ hm 9 x7)
end Go.Proofs.YtfconbblnmbnpafGreatDoor
namespace Go.Proofs.YtfconbblnmbnpafGreatDoor
open Go.RowKit

/-- What lies in threes can be read cell by cell. -/
theorem trio_at {w : World} {b : Nat} : ∀ (l : List (Int × Int × Int)) (off : Nat), (∀ (i : Nat) o, l[i]? = some o → w.cell? ⟨b, off + i * 3, none⟩ = some (.int .i64 o.1) ∧ w.cell? ⟨b, off + i * 3 + 1, none⟩ = some (.int .i64 o.2.1) ∧ w.cell? ⟨b, off + i * 3 + 2, none⟩ = some (.int .i64 o.2.2)) → ∀ j u, (spCells l)[j]? = some u → w.cell? ((⟨b, off, none⟩ : Addr).add j) = some u
  | [], off, _, j, u, hj => by simp [spCells] at hj
  | x :: l, off, h, j, u, hj => by
    have e : spCells (x :: l) = [.int .i64 x.1, .int .i64 x.2.1, .int .i64 x.2.2] ++ spCells l := by simp [spCells]
    rw [e] at hj
    obtain ⟨h0, h1, h2⟩ := h 0 x (by simp)
    rw [Addr.add_lit]
    match j, hj with
    | 0, hj => simp at hj; subst hj; simpa using h0
    | 1, hj => simp at hj; subst hj; simpa using h1
    | 2, hj => simp at hj; subst hj; simpa using h2
    | j + 3, hj =>
      rw [List.getElem?_append_right (by simp)] at hj
      have ih := trio_at l (off + 3) (fun i o ho => by
        have := h (i + 1) o (by simpa using ho)
        rw [show off + (i + 1) * 3 = off + 3 + i * 3 by omega] at this
        exact this) j u (by simpa using hj)
      rw [Addr.add_lit] at ih
      rw [show off + (j + 3) = off + 3 + j by omega]
      exact ih
theorem spCells_len : ∀ l : List (Int × Int × Int), (spCells l).length = l.length * 3
  | [] => rfl
  | x :: l => by
    have e : spCells (x :: l) = [.int .i64 x.1, .int .i64 x.2.1, .int .i64 x.2.2] ++ spCells l := by simp [spCells]
    rw [e, List.length_append, spCells_len l, List.length_cons]
    simp
    omega
theorem spCells_one (l : List (Int × Int × Int)) : ∀ u ∈ spCells l, u.oneCell' = true := by
  intro u hu
  simp only [spCells, List.mem_flatMap] at hu
  obtain ⟨o, _, hu⟩ := hu
  simp at hu
  rcases hu with rfl | rfl | rfl <;> rfl
theorem ginfoOp : (Tryz.prog.info? 89).map (fun i => (i.zero, i.size, i.bytes)) = some (some (.agg #[.int .i64 0, .int .i64 0, .int .i64 0]), 3, 24) := by kernel_rfl
set_option maxRecDepth 100000 in
set_option maxHeartbeats 4000000 in
theorem clone_op_nil (cap : Nat) (w : World) : Calls Tryz.prog 33 #[.slice none 0 cap] w fun e w' => e = .returned (.slice none 0 0) ∧ w' = w := by
  have q : ∀ (w : World) (a : Option Addr) (n c n' c' : Nat), (binOp .eql 65 (.slice a n c) (.slice none n' c')).run Tryz.prog w = .ok (.bool a.isNone) w := fun w a n c n' c' => Lib.run_eql_slice_nil w _ _ a n c n' c' Tryz.underlying65
  go_enter Tryz.func33, Tryz.ntmps33
  go_wp2
  go_ret
  exact ⟨rfl, rfl⟩
set_option maxRecDepth 100000 in
set_option maxHeartbeats 4000000 in
theorem clone_op_some (ad : Addr) (cap : Nat) (l : List (Int × Int × Int)) (w : World) (hx : l.length ≤ 1000) (hc : ∀ j u, (spCells l)[j]? = some u → w.cell? (ad.add j) = some u) :
    Calls Tryz.prog 33 #[.slice (some ad) l.length cap] w fun e w' => ∃ v', e = .returned v' ∧ w'.ownsRow w.heap.size 89 3 v' l.length (spCells l) ∧ Below w.heap.size w w' := by
  obtain ⟨ii, hi, hz0, hz1, hz2⟩ := info_parts ginfoOp
  have q : ∀ (w : World) (a : Option Addr) (n c n' c' : Nat), (binOp .eql 65 (.slice a n c) (.slice none n' c')).run Tryz.prog w = .ok (.bool a.isNone) w := fun w a n c n' c' => Lib.run_eql_slice_nil w _ _ a n c n' c' Tryz.underlying65
  have HC : Hid (∀ j u, (spCells l)[j]? = some u → w.cell? (ad.add j) = some u) := hc
  clear hc
  go_enter Tryz.func33, Tryz.ntmps33
  go_wp2_with (at_builtin; refine wpList_append_at _ rfl _ _ 65 rfl w.heap.size 89 ii _ 3 24 Tryz.underlying65 hi hz0 hz1 hz2 rfl (by decide) _ _ _ rfl (World.ownsRow_made w #[] 0 (Nat.le_refl _) (Nat.zero_le _) rfl) ad l.length cap (spCells l) rfl ?c0A ?c1A ?c2A ?c3A ?c4A ?c5A ?_)
  case c0A => exact spCells_len l
  case c1A =>
    intro j u hj
    have h := HC.out j u hj
    exact (((Below.refl _ w).alloc (Nat.le_refl _) _).cell (p := ad.add j) (World.block_lt_of_cell? w _ h)).trans h
  case c2A => exact spCells_one l
  case c3A => unfold maxLen; omega
  case c4A => omega
  case c5A => simp
  intro v1 w2 own1 hg1 hat1
  clear q
  go_wp2
  go_ret
  refine ⟨v1, rfl, by simpa using own1, ((Below.refl _ w).alloc (Nat.le_refl _) _).grown hg1 (by simp) (by intro k hk; simp [Value.ownBlock] at hk; omega)⟩
theorem clone_ops (l : List O3) (v : Value) (w : World) (h : Ops w v l) (hx : l.length ≤ 1000) :
    Calls Tryz.prog 33 #[v] w fun e w' => ∃ v', e = .returned v' ∧ w'.ownsRow w.heap.size 89 3 v' l.length (spCells l) ∧ Below w.heap.size w w' := by
  rcases h with ⟨rfl, ao, cap, rfl⟩ | ⟨b, off, cap, rfl, hlt, hc⟩
  · cases ao with
    | none =>
      refine (clone_op_nil cap w).mono ?_
      rintro e w' ⟨rfl, rfl⟩
      exact ⟨_, rfl, World.ownsRow_nil _ _ _ _, Below.refl _ _⟩
    | some ad => exact clone_op_some ad cap [] w (Nat.zero_le _) (fun j u hj => by simp [spCells] at hj)
  · exact clone_op_some ⟨b, off, none⟩ cap l w hx (trio_at l off hc)
/-- Ops in a row of their own can be read. -/
theorem gops_own {w : World} {base : Nat} {v : Value} {l : List O3} (h : w.ownsRow base 89 3 v l.length (spCells l)) : Ops w v l := by
  have hl := h.lt
  have hcs := @World.ownsRow.cells _ _ _ _ _ _ _ h
  rcases h.2 with ⟨rfl, h0⟩ | ⟨g, cap, cur, rfl, _, _, hcap, _⟩
  · exact Or.inl ⟨List.eq_nil_of_length_eq_zero h0, _, _, rfl⟩
  · have hat : ∀ j u, (spCells l)[j]? = some u → w.cell? ⟨g, j, none⟩ = some u := fun j u hu => by
      have := hcs rfl j u hu
      rwa [Addr.add_lit, Nat.zero_add] at this
    refine Or.inr ⟨g, 0, cap, rfl, (hl g rfl).2, fun i o ho => ?_⟩
    obtain ⟨h1, h2, h3⟩ := spCells_at l i o ho
    exact ⟨by simpa using hat _ _ h1, by simpa using hat _ _ h2, by simpa using hat _ _ h3⟩
end Go.Proofs.YtfconbblnmbnpafGreatDoor
namespace Go.Proofs.YtfconbblnmbnpafGreatDoor
open Go.RowKit

set_option maxRecDepth 100000 in
set_option maxHeartbeats 4000000 in
theorem clone_sp_nil (cap : Nat) (w : World) : Calls Tryz.prog 32 #[.slice none 0 cap] w fun e w' => e = .returned (.slice none 0 0) ∧ w' = w := by
  have q : ∀ (w : World) (a : Option Addr) (n c n' c' : Nat), (binOp .eql 23 (.slice a n c) (.slice none n' c')).run Tryz.prog w = .ok (.bool a.isNone) w := fun w a n c n' c' => Lib.run_eql_slice_nil w _ _ a n c n' c' Tryz.underlying23
  go_enter Tryz.func32, Tryz.ntmps32
  go_wp2
  go_ret
  exact ⟨rfl, rfl⟩
set_option maxRecDepth 100000 in
set_option maxHeartbeats 4000000 in
theorem clone_sp_some (ad : Addr) (cap : Nat) (l : List (Int × Int × Int)) (w : World) (hx : l.length ≤ 1000) (hc : ∀ j u, (spCells l)[j]? = some u → w.cell? (ad.add j) = some u) :
    Calls Tryz.prog 32 #[.slice (some ad) l.length cap] w fun e w' => ∃ v', e = .returned v' ∧ w'.ownsRow w.heap.size 61 3 v' l.length (spCells l) ∧ Below w.heap.size w w' := by
  obtain ⟨ii, hi, hz0, hz1, hz2⟩ := info_parts infoSp
  have q : ∀ (w : World) (a : Option Addr) (n c n' c' : Nat), (binOp .eql 23 (.slice a n c) (.slice none n' c')).run Tryz.prog w = .ok (.bool a.isNone) w := fun w a n c n' c' => Lib.run_eql_slice_nil w _ _ a n c n' c' Tryz.underlying23
  have HC : Hid (∀ j u, (spCells l)[j]? = some u → w.cell? (ad.add j) = some u) := hc
  clear hc
  go_enter Tryz.func32, Tryz.ntmps32
  go_wp2_with (at_builtin; refine wpList_append_at _ rfl _ _ 23 rfl w.heap.size 61 ii _ 3 24 Tryz.underlying23 hi hz0 hz1 hz2 rfl (by decide) _ _ _ rfl (World.ownsRow_made w #[] 0 (Nat.le_refl _) (Nat.zero_le _) rfl) ad l.length cap (spCells l) rfl ?c0A ?c1A ?c2A ?c3A ?c4A ?c5A ?_)
  case c0A => exact spCells_len l
  case c1A =>
    intro j u hj
    have h := HC.out j u hj
    exact (((Below.refl _ w).alloc (Nat.le_refl _) _).cell (p := ad.add j) (World.block_lt_of_cell? w _ h)).trans h
  case c2A => exact spCells_one l
  case c3A => unfold maxLen; omega
  case c4A => omega
  case c5A => simp
  intro v1 w2 own1 hg1 hat1
  clear q
  go_wp2
  go_ret
  refine ⟨v1, rfl, by simpa using own1, ((Below.refl _ w).alloc (Nat.le_refl _) _).grown hg1 (by simp) (by intro k hk; simp [Value.ownBlock] at hk; omega)⟩
theorem clone_sps (l : List S3) (v : Value) (w : World) (h : Sps w v l) (hx : l.length ≤ 1000) :
    Calls Tryz.prog 32 #[v] w fun e w' => ∃ v', e = .returned v' ∧ w'.ownsRow w.heap.size 61 3 v' l.length (spCells l) ∧ Below w.heap.size w w' := by
  rcases h with ⟨rfl, ao, cap, rfl⟩ | ⟨b, off, cap, rfl, hcap, hlt, hc⟩
  · cases ao with
    | none =>
      refine (clone_sp_nil cap w).mono ?_
      rintro e w' ⟨rfl, rfl⟩
      exact ⟨_, rfl, World.ownsRow_nil _ _ _ _, Below.refl _ _⟩
    | some ad => exact clone_sp_some ad cap [] w (Nat.zero_le _) (fun j u hj => by simp [spCells] at hj)
  · exact clone_sp_some ⟨b, off, none⟩ cap l w hx (trio_at l off hc)
end Go.Proofs.YtfconbblnmbnpafGreatDoor
namespace Go.Proofs.YtfconbblnmbnpafGreatDoor
open Go.RowKit

/-- A state's eight cells, written. -/
def setSt (w : World) (b o : Nat) (s : St) : World := (((((((w.setCell ⟨b, o, none⟩ (.int .i64 s.p)).setCell ⟨b, o + 1, none⟩ (.int .i64 (s.c 0))).setCell ⟨b, o + 2, none⟩ (.int .i64 (s.c 1))).setCell ⟨b, o + 3, none⟩ (.int .i64 (s.c 2))).setCell ⟨b, o + 4, none⟩ (.int .i64 (s.c 3))).setCell ⟨b, o + 5, none⟩ (.int .i64 (s.c 4))).setCell ⟨b, o + 6, none⟩ (.int .i64 (s.c 5))).setCell ⟨b, o + 7, none⟩ (.bool s.f)
theorem setSt_touch {M : List Nat} (w : World) {b : Nat} (hb : b ∈ M) (o : Nat) (s : St) : KTouch M w (setSt w b o s) :=
  (((((((KTouch.set w hb _ _).trans (KTouch.set _ hb _ _)).trans (KTouch.set _ hb _ _)).trans (KTouch.set _ hb _ _)).trans (KTouch.set _ hb _ _)).trans (KTouch.set _ hb _ _)).trans (KTouch.set _ hb _ _)).trans (KTouch.set _ hb _ _)
theorem setSt_frozen (w : World) (b o : Nat) (s : St) (a : Addr) : (setSt w b o s).frozen? a = w.frozen? a := by
  unfold setSt
  simp only [World.frozen?_setCell]
theorem setCell_far {w : World} {b i j : Nat} {v : Value} (h : i ≠ j) : (w.setCell ⟨b, j, none⟩ v).cell? ⟨b, i, none⟩ = w.cell? ⟨b, i, none⟩ :=
  World.cell?_setCell_other _ _ _ _ (fun e => by injection e with e1 e2; exact h e2.symm)
theorem setSt_off {w : World} {b o : Nat} {s : St} {i : Nat} (h : i < o ∨ o + 8 ≤ i) : (setSt w b o s).cell? ⟨b, i, none⟩ = w.cell? ⟨b, i, none⟩ := by
  unfold setSt
  rw [setCell_far (by omega), setCell_far (by omega), setCell_far (by omega), setCell_far (by omega), setCell_far (by omega), setCell_far (by omega), setCell_far (by omega), setCell_far (by omega)]
theorem setSt_at {w : World} {b o : Nat} {s s' : St} (h : StC w b o s) : StC (setSt w b o s') b o s' := by
  obtain ⟨h0, h1, h2, h3, h4, h5, h6, h7⟩ := h
  unfold setSt
  refine ⟨?_, ?_, ?_, ?_, ?_, ?_, ?_, ?_⟩ <;> simp [go_sem, h0, h1, h2, h3, h4, h5, h6, h7]
theorem StC.off {w w' : World} {b o : Nat} {s : St} (h : StC w b o s) (hc : ∀ i, o ≤ i → i < o + 8 → w'.cell? ⟨b, i, none⟩ = w.cell? ⟨b, i, none⟩) : StC w' b o s :=
  ⟨(hc _ (by omega) (by omega)).trans h.p, (hc _ (by omega) (by omega)).trans h.c0, (hc _ (by omega) (by omega)).trans h.c1, (hc _ (by omega) (by omega)).trans h.c2, (hc _ (by omega) (by omega)).trans h.c3, (hc _ (by omega) (by omega)).trans h.c4, (hc _ (by omega) (by omega)).trans h.c5, (hc _ (by omega) (by omega)).trans h.f⟩
theorem StC.poke {w : World} {b o : Nat} {s : St} (h : StC w b o s) {c : Nat} (hc : c ≤ 5) (n : Int) : StC (w.setCell ⟨b, o + 1 + c, none⟩ (.int .i64 n)) b o (pokeS s c n) := by
  obtain ⟨h0, h1, h2, h3, h4, h5, h6, h7⟩ := h
  match c, hc with
  | 0, _ => refine ⟨?_, ?_, ?_, ?_, ?_, ?_, ?_, ?_⟩ <;> simp [go_sem, pokeS, h0, h1, h2, h3, h4, h5, h6, h7]
  | 1, _ => refine ⟨?_, ?_, ?_, ?_, ?_, ?_, ?_, ?_⟩ <;> simp [go_sem, pokeS, h0, h1, h2, h3, h4, h5, h6, h7]
  | 2, _ => refine ⟨?_, ?_, ?_, ?_, ?_, ?_, ?_, ?_⟩ <;> simp [go_sem, pokeS, h0, h1, h2, h3, h4, h5, h6, h7]
  | 3, _ => refine ⟨?_, ?_, ?_, ?_, ?_, ?_, ?_, ?_⟩ <;> simp [go_sem, pokeS, h0, h1, h2, h3, h4, h5, h6, h7]
  | 4, _ => refine ⟨?_, ?_, ?_, ?_, ?_, ?_, ?_, ?_⟩ <;> simp [go_sem, pokeS, h0, h1, h2, h3, h4, h5, h6, h7]
  | 5, _ => refine ⟨?_, ?_, ?_, ?_, ?_, ?_, ?_, ?_⟩ <;> simp [go_sem, pokeS, h0, h1, h2, h3, h4, h5, h6, h7]
/-- An event in its box. -/
def EvB (W : World) (b : Nat) (t r a q : Int) : Prop := W.heap[b]? = some (.cells #[.int .i64 t, .int .i64 r, .int .i64 a, .int .i64 q] 43 (0, 0))
theorem EvB.lt {W : World} {b : Nat} {t r a q : Int} (h : EvB W b t r a q) : b < W.heap.size := (Array.getElem?_eq_some_iff.1 h).1
theorem EvB.cs {W : World} {b : Nat} {t r a q : Int} (h : EvB W b t r a q) : W.cell? ⟨b, 0, none⟩ = some (.int .i64 t) ∧ W.cell? ⟨b, 1, none⟩ = some (.int .i64 r) ∧ W.cell? ⟨b, 2, none⟩ = some (.int .i64 a) ∧ W.cell? ⟨b, 3, none⟩ = some (.int .i64 q) := by
  have e : W.heap[b]? = _ := h
  simp [World.cell?, e]
theorem EvB.fs {W : World} {b : Nat} {t r a q : Int} (h : EvB W b t r a q) : W.frozen? ⟨b, 0, none⟩ = false ∧ W.frozen? ⟨b, 1, none⟩ = false ∧ W.frozen? ⟨b, 2, none⟩ = false ∧ W.frozen? ⟨b, 3, none⟩ = false := by
  have e : W.heap[b]? = _ := h
  simp [World.frozen?, e]
theorem EvB.set {W : World} {b : Nat} {t r a q : Int} (h : EvB W b t r a q) (t' r' a' q' : Int) : EvB ((((W.setCell ⟨b, 0, none⟩ (.int .i64 t')).setCell ⟨b, 1, none⟩ (.int .i64 r')).setCell ⟨b, 2, none⟩ (.int .i64 a')).setCell ⟨b, 3, none⟩ (.int .i64 q')) b t' r' a' q' := by
  have e : W.heap[b]? = _ := h
  unfold EvB
  simp [World.setCell, Array.getElem?_modify, e]
theorem EvB.at {W : World} {b : Nat} {t r a q : Int} (h : EvB W b t r a q) (a' : Int) : EvB (W.setCell ⟨b, 2, none⟩ (.int .i64 a')) b t r a' q := by
  have e : W.heap[b]? = _ := h
  unfold EvB
  simp [World.setCell, Array.getElem?_modify, e]
theorem EvB.what {W : World} {b : Nat} {t r a q : Int} (h : EvB W b t r a q) (q' : Int) : EvB (W.setCell ⟨b, 3, none⟩ (.int .i64 q')) b t r a q' := by
  have e : W.heap[b]? = _ := h
  unfold EvB
  simp [World.setCell, Array.getElem?_modify, e]
/-- A state in its box. -/
def StB (W : World) (b : Nat) (s : St) : Prop := W.heap[b]? = some (.cells #[.int .i64 s.p, .int .i64 (s.c 0), .int .i64 (s.c 1), .int .i64 (s.c 2), .int .i64 (s.c 3), .int .i64 (s.c 4), .int .i64 (s.c 5), .bool s.f] 47 (0, 0))
theorem StB.cs {W : World} {b : Nat} {s : St} (h : StB W b s) : StC W b 0 s := by
  have e : W.heap[b]? = _ := h
  refine ⟨?_, ?_, ?_, ?_, ?_, ?_, ?_, ?_⟩ <;> simp [World.cell?, e]
/-- Both boxes of a tick, the result's and its own. -/
structure Ev (w W : World) (e2 : Nat) (t r a q : Int) : Prop where
  res : EvB W w.heap.size 0 0 0 0
  own : EvB W e2 t r a q
  ne : e2 ≠ w.heap.size
  ge : w.heap.size ≤ e2
/-- The box laid ahead of the call. -/
theorem ev_box {w w1 : World} (b1 : Below (((w.alloc (.cells #[.int .i64 0, .int .i64 0, .int .i64 0, .int .i64 0] 43)).alloc (.cells #[.int .i64 0, .int .i64 0, .int .i64 0, .int .i64 0] 43)).drew).heap.size (((w.alloc (.cells #[.int .i64 0, .int .i64 0, .int .i64 0, .int .i64 0] 43)).alloc (.cells #[.int .i64 0, .int .i64 0, .int .i64 0, .int .i64 0] 43)).drew) w1) :
    (w1.cell? ⟨w.heap.size + 1, 0, none⟩ = some (.int .i64 0) ∧ w1.cell? ⟨w.heap.size + 1, 1, none⟩ = some (.int .i64 0) ∧ w1.cell? ⟨w.heap.size + 1, 2, none⟩ = some (.int .i64 0) ∧ w1.cell? ⟨w.heap.size + 1, 3, none⟩ = some (.int .i64 0)) ∧ w1.frozen? ⟨w.heap.size + 1, 0, none⟩ = false ∧ w1.frozen? ⟨w.heap.size + 1, 1, none⟩ = false ∧ w1.frozen? ⟨w.heap.size + 1, 2, none⟩ = false ∧ w1.frozen? ⟨w.heap.size + 1, 3, none⟩ = false := by
  have hc := fun o => b1.cell (p := ⟨w.heap.size + 1, o, none⟩) (by simp)
  have hf := fun o => b1.frozen (p := ⟨w.heap.size + 1, o, none⟩) (by simp)
  exact ⟨⟨(hc 0).trans (by simp), (hc 1).trans (by simp), (hc 2).trans (by simp), (hc 3).trans (by simp)⟩, (hf 0).trans (by simp), (hf 1).trans (by simp), (hf 2).trans (by simp), (hf 3).trans (by simp)⟩
/-- The cells of a state are there, and may be written. -/
theorem there_st {W : World} {b o : Nat} {s : St} (h : StC W b o s) (hf : ∀ i, W.frozen? ⟨b, i, none⟩ = false) (nq : Nat) : (W.drewN nq).there b o 8 := by
  obtain ⟨s0, s1, s2, s3, s4, s5, s6, s7⟩ := h
  intro j hj
  have hb : Below W.heap.size W (W.drewN nq) := below_dN (Below.refl _ _) nq
  have hlt : b < W.heap.size := World.block_lt_of_cell? W _ s0
  rw [hb.cell (p := ⟨b, o + j, none⟩) hlt, hb.frozen (p := ⟨b, o + j, none⟩) hlt]
  refine ⟨?_, hf _⟩
  match j, hj with
  | 0, _ => rw [Nat.add_zero, s0]; rfl
  | 1, _ => rw [s1]; rfl
  | 2, _ => rw [s2]; rfl
  | 3, _ => rw [s3]; rfl
  | 4, _ => rw [s4]; rfl
  | 5, _ => rw [s5]; rfl
  | 6, _ => rw [s6]; rfl
  | 7, _ => rw [s7]; rfl
end Go.Proofs.YtfconbblnmbnpafGreatDoor
namespace Go.Proofs.YtfconbblnmbnpafGreatDoor
open Go.RowKit

theorem stb_fz {w : World} {b : Nat} {s : St} (h : StB w b s) (o : Nat) : w.frozen? ⟨b, o, none⟩ = false := by
  have e : w.heap[b]? = _ := h
  simp [World.frozen?, e]
end Go.Proofs.YtfconbblnmbnpafGreatDoor
namespace Go.Proofs.YtfconbblnmbnpafGreatDoor

/-- A wire that leads to a room, or comes from it. -/
def atR (r : Int) (l : LnD) : Bool := decide (l.w.1 = r) || decide (l.w.2.1 = r)
/-- What a room sees of a kernel's lines. -/
def seesK (k : KD) (r : Int) : List (List Int × Int) := (k.lines.filter (atR r)).map fun l => (l.xs, l.ls)
/-- A room's states ahead of each of n ticks, and behind the last one. -/
def statesK (p : PD) (n r : Nat) : List St := (List.range (n + 1)).map fun t => (kT p t).rooms.getD r stNew
theorem statesK_len (p : PD) (n r : Nat) : (statesK p n r).length = n + 1 := by simp [statesK]
theorem statesK_zero (p : PD) (r : Nat) : statesK p 0 r = [(newK p).rooms.getD r stNew] := by simp [statesK, kT]
theorem statesK_succ (p : PD) (n r : Nat) : statesK p (n + 1) r = statesK p n r ++ [(kT p (n + 1)).rooms.getD r stNew] := by
  unfold statesK
  rw [List.range_succ, List.map_append]
  rfl
theorem statesK_first (p : PD) (n r : Nat) : (statesK p n r)[0]? = some stNew := by
  have h : (newK p).rooms.getD r stNew = stNew := by
    unfold newK
    simp only [List.getD, List.getElem?_map]
    cases p.code[r]? <;> rfl
  rw [← h]
  simp [statesK, kT]
/-- What is wrong with a run. -/
def runE (p : PD) (n r : Int) : Int := if plchk p = 0 then (if r < 0 ∨ (p.code.length : Int) ≤ r ∨ n < 0 ∨ 2000 < n then 1 else 0) else plchk p
/-- Two states that look the same. -/
structure StSame (s t : St) : Prop where
  p : s.p = t.p
  c : ∀ i, i < 6 → s.c i = t.c i
  f : s.f = t.f
theorem StSame.refl (s : St) : StSame s s := ⟨rfl, fun _ _ => rfl, rfl⟩
theorem cells_same {o : O3} {c d : Nat → Int} {g : Int} {b : Bool} (h : ∀ i, i < 6 → c i = d i) (hA : o.2.1.toNat < 6) (hB : o.1 = 2 ∨ o.1 = 3 ∨ o.1 = 4 ∨ o.1 = 5 → o.2.2.toNat < 6) : ∀ i, i < 6 → cellsF o c g b i = cellsF o d g b i := fun i hi => by
  have hu : ∀ v, upd c o.2.1.toNat v i = upd d o.2.1.toNat v i := fun v => by
    unfold upd
    split
    · rfl
    · exact h i hi
  unfold cellsF
  split
  · exact hu _
  split
  · rename_i h2; rw [h _ (hB (by omega))]; exact hu _
  split
  · rename_i h3; rw [h _ hA, h _ (hB (by omega))]; exact hu _
  split
  · rename_i h4; rw [h _ hA, h _ (hB (by omega))]; exact hu _
  split
  · rename_i h5; rw [h _ hA, h _ (hB (by omega))]; exact hu _
  split
  · split
    · exact hu _
    · exact h i hi
  · exact h i hi
theorem step_same {o : O3} {s t : St} {n : Nat} {g : Int} {b : Bool} (h : StSame s t) (hA : o.2.1.toNat < 6) (hB : o.1 = 2 ∨ o.1 = 3 ∨ o.1 = 4 ∨ o.1 = 5 → o.2.2.toNat < 6) : StSame (stepF o s n g b) (stepF o t n g b) := by
  unfold stepF
  rw [← h.f]
  split
  · exact h
  · refine ⟨?_, cells_same h.c hA hB, rfl⟩
    show nextF o s n b = nextF o t n b
    unfold nextF
    rw [h.p, h.c _ hA]
theorem small_args {p : PD} {k : KD} {r : Nat} {c : List O3} {s : St} {o : O3} (h : Turn p k r c s o) : o.2.1.toNat < 6 ∧ (o.1 = 2 ∨ o.1 = 3 ∨ o.1 = 4 ∨ o.1 = 5 → o.2.2.toNat < 6) := by
  have hr := ok3_range h.ok
  have hb := (bA_le o.1).2
  refine ⟨by omega, fun hh => ?_⟩
  rcases hh with e | e | e | e <;> simp [e, bB] at hr <;> omega
/-- One turn of a room that sees the same. -/
theorem turn_same {p : PD} {k m : KD} {r : Nat} {c : List O3} {s t : St} {o : O3} (hk : Turn p k r c s o) (hm : Turn p m r c t o) (hs : StSame s t) (hl : o.1 = 8 ∨ o.1 = 9 → ∃ l, k.lines[o.2.2.toNat]? = some l ∧ m.lines[o.2.2.toNat]? = some l) (hrk : r < k.rooms.length) (hrm : r < m.rooms.length) :
    (turnK p k r).2 = (turnK p m r).2 ∧ ∃ s' t', (turnK p k r).1.rooms[r]? = some s' ∧ (turnK p m r).1.rooms[r]? = some t' ∧ StSame s' t' := by
  obtain ⟨hA, hB⟩ := small_args hk
  have hst : ∀ g b, StSame (stepF o s c.length g b) (stepF o t c.length g b) := fun g b => step_same hs hA hB
  cases hf : s.f with
  | true =>
    have hf' : t.f = true := by rw [← hs.f]; exact hf
    rw [turn_failed hk hf, turn_failed hm hf']
    exact ⟨by rw [hs.p], s, t, hk.hs, hm.hs, hs⟩
  | false =>
    have hf' : t.f = false := by rw [← hs.f]; exact hf
    by_cases h9 : o.1 = 9
    · obtain ⟨l, h1, h2⟩ := hl (Or.inr h9)
      cases hh : (headL l).2 with
      | true =>
        rw [turn_takes hk hf h9 h1 hh, turn_takes hm hf' h9 h2 hh]
        exact ⟨by rw [hs.p], _, _, List.getElem?_set_self hrk, List.getElem?_set_self hrm, hst _ _⟩
      | false =>
        rw [turn_waits hk hf h9 h1 hh, turn_waits hm hf' h9 h2 hh]
        exact ⟨by rw [hs.p], _, _, List.getElem?_set_self hrk, List.getElem?_set_self hrm, hst _ _⟩
    · by_cases h8 : o.1 = 8
      · obtain ⟨l, h1, h2⟩ := hl (Or.inl h8)
        rw [turn_sends hk hf h8 h1, turn_sends hm hf' h8 h2]
        exact ⟨by rw [hs.p], _, _, List.getElem?_set_self hrk, List.getElem?_set_self hrm, hst _ _⟩
      · rw [turn_else hk hf h8 h9, turn_else hm hf' h8 h9]
        exact ⟨by rw [hs.p], _, _, List.getElem?_set_self hrk, List.getElem?_set_self hrm, hst _ _⟩
/-- What is seen the same is the same line. -/
theorem sees_line : ∀ {ls ms : List LnD} {ws : List W4} {r : Int}, ls.length = ws.length → ms.length = ws.length → (∀ (i : Nat) l x, ls[i]? = some l → ws[i]? = some x → l.w = x) → (∀ (i : Nat) l x, ms[i]? = some l → ws[i]? = some x → l.w = x) →
    ((ls.filter (atR r)).map fun l => (l.xs, l.ls)) = ((ms.filter (atR r)).map fun l => (l.xs, l.ls)) → ∀ (i : Nat) x, ws[i]? = some x → x.1 = r ∨ x.2.1 = r → ls[i]? = ms[i]?
  | [], [], _, _, _, _, _, _, _, i, x, _, _ => by simp
  | [], _ :: _, ws, _, h1, h2, _, _, _, _, _, _, _ => by simp at h1 h2; omega
  | _ :: _, [], ws, _, h1, h2, _, _, _, _, _, _, _ => by simp at h1 h2; omega
  | l :: ls, m :: ms, [], _, h1, _, _, _, _, _, _, _, _ => by simp at h1
  | l :: ls, m :: ms, y :: ws, r, h1, h2, h3, h4, h5, i, x, hx, hr => by
    have e1 : l.w = y := h3 0 l y rfl rfl
    have e2 : m.w = y := h4 0 m y rfl rfl
    have ea : atR r m = atR r l := by unfold atR; rw [e1, e2]
    have rest : ((ls.filter (atR r)).map fun l => (l.xs, l.ls)) = ((ms.filter (atR r)).map fun l => (l.xs, l.ls)) ∧ (atR r l = true → l = m) := by
      cases hb : atR r l with
      | true =>
        rw [List.filter_cons_of_pos (by exact hb), List.filter_cons_of_pos (by rw [ea]; exact hb)] at h5
        simp only [List.map_cons, List.cons.injEq, Prod.mk.injEq] at h5
        refine ⟨h5.2, fun _ => ?_⟩
        obtain ⟨lw, lx, ll⟩ := l
        obtain ⟨mw, mx, ml⟩ := m
        simp only at e1 e2 h5
        rw [e1, e2, h5.1.1, h5.1.2]
      | false =>
        rw [List.filter_cons_of_neg (by rw [hb]; decide), List.filter_cons_of_neg (by rw [ea, hb]; decide)] at h5
        exact ⟨h5, fun h => by cases h⟩
    cases i with
    | zero =>
      simp only [List.getElem?_cons_zero, Option.some.injEq] at hx ⊢
      subst hx
      refine rest.2 ?_
      unfold atR
      rw [e1]
      rcases hr with hr | hr <;> simp [hr]
    | succ i =>
      simp only [List.getElem?_cons_succ] at hx ⊢
      exact sees_line (by simpa using h1) (by simpa using h2) (fun j l' x' hl hx => h3 (j + 1) l' x' (by simpa using hl) (by simpa using hx)) (fun j l' x' hl hx => h4 (j + 1) l' x' (by simpa using hl) (by simpa using hx)) rest.1 i x hx hr
/-- WHO SEES THE SAME DOES THE SAME: one tick. -/
theorem tick_same {p : PD} {k m : KD} (hp : plchk p = 0) (hk : KOk p k) (hm : KOk p m) (ht : k.time = m.time) {r : Nat} (hr : r < p.code.length) {s t : St} (hs : k.rooms[r]? = some s) (htt : m.rooms[r]? = some t) (hst : StSame s t) (hsee : seesK k r = seesK m r) :
    (tickK p p.spans k).2.2.1 = (tickK p p.spans m).2.2.1 ∧ ((tickK p p.spans k).2.2.1 = (r : Int) → (tickK p p.spans k).2 = (tickK p p.spans m).2 ∧ ∃ s' t', (tickK p p.spans k).1.rooms[r]? = some s' ∧ (tickK p p.spans m).1.rooms[r]? = some t' ∧ StSame s' t') := by
  have ew : whoK p k = whoK p m := by unfold whoK; rw [ht]
  refine ⟨by rw [(tick_told p k).2, (tick_told p m).2, ew], fun hw => ?_⟩
  rw [(tick_told p k).2] at hw
  have hwm : whoK p m = r := by rw [← ew]; exact hw
  have e1 : tickK p p.spans k = ((turnK p k r).1, k.time, (r : Int), (turnK p k r).2.1, (turnK p k r).2.2) := by
    unfold whoK at hw
    unfold tickK
    simp only [hw]
    rw [if_neg (by omega), Int.toNat_natCast]
  have e2 : tickK p p.spans m = ((turnK p m r).1, m.time, (r : Int), (turnK p m r).2.1, (turnK p m r).2.2) := by
    unfold whoK at hwm
    unfold tickK
    simp only [hwm]
    rw [if_neg (by omega), Int.toNat_natCast]
  obtain ⟨c, s0, o, tk⟩ := turn_of hp hk hr
  obtain rfl : s = s0 := Option.some.inj (hs.symm.trans tk.hs)
  have tm : Turn p m r c t o := ⟨tk.hc, htt, by rw [← hst.p]; exact tk.ho, tk.ck, hm.rooms r c t tk.hc htt, tk.ok⟩
  have hl : o.1 = 8 ∨ o.1 = 9 → ∃ l, k.lines[o.2.2.toNat]? = some l ∧ m.lines[o.2.2.toNat]? = some l := fun ho => by
    have hx : ∃ x, p.wires[o.2.2.toNat]? = some x ∧ (x.1 = (r : Int) ∨ x.2.1 = (r : Int)) := by
      have := op_wire hp tk.hc (List.mem_of_getElem? tk.ho)
      rcases ho with h8 | h9
      · obtain ⟨x, h1, h2⟩ := this.1 h8
        exact ⟨x, h1, Or.inl h2⟩
      · obtain ⟨x, h1, h2⟩ := this.2 h9
        exact ⟨x, h1, Or.inr h2⟩
    obtain ⟨x, hx1, hx2⟩ := hx
    have hlt : o.2.2.toNat < k.lines.length := by rw [hk.ll]; exact (List.getElem?_eq_some_iff.1 hx1).1
    have hl1 : k.lines[o.2.2.toNat]? = some k.lines[o.2.2.toNat] := List.getElem?_eq_getElem hlt
    have := sees_line hk.ll hm.ll (fun i l x h1 h2 => (hk.lines i l x h1 h2).w) (fun i l x h1 h2 => (hm.lines i l x h1 h2).w) hsee _ x hx1 hx2
    exact ⟨_, hl1, by rw [← this]; exact hl1⟩
  have hrl : r < k.rooms.length := by rw [hk.rl]; exact hr
  have hrm : r < m.rooms.length := by rw [hm.rl]; exact hr
  obtain ⟨q1, q2⟩ := turn_same tk tm hst hl hrl hrm
  rw [e1, e2]
  refine ⟨?_, q2⟩
  rw [ht, q1]
end Go.Proofs.YtfconbblnmbnpafGreatDoor
namespace Go.Proofs.YtfconbblnmbnpafGreatDoor

/-- Code that rests. -/
def restC : List O3 := [(10, 0, 0)]
/-- Codes of which all but some rest. -/
def purgeC (R : Nat → Bool) : Nat → List (List O3) → List (List O3)
  | _, [] => []
  | i, c :: l => (if R i = true then c else restC) :: purgeC R (i + 1) l
def purgeP (p : PD) (R : Nat → Bool) : PD := ⟨purgeC R 0 p.code, p.ticks, p.spans, p.wires⟩
theorem purgeC_len (R : Nat → Bool) : ∀ (i : Nat) (l : List (List O3)), (purgeC R i l).length = l.length
  | _, [] => rfl
  | i, c :: l => by simp [purgeC, purgeC_len R (i + 1) l]
theorem purgeC_at (R : Nat → Bool) : ∀ (i : Nat) (l : List (List O3)) (j : Nat), (purgeC R i l)[j]? = (l[j]?).map fun c => if R (i + j) = true then c else restC
  | _, [], j => by simp [purgeC]
  | i, c :: l, 0 => by simp [purgeC]
  | i, c :: l, j + 1 => by
    simp only [purgeC, List.getElem?_cons_succ]
    rw [purgeC_at R (i + 1) l j, show i + 1 + j = i + (j + 1) by omega]
theorem rest_chk : (chk restC).2 = 0 := by decide +kernel
theorem rest_ports (ws : List W4) (i : Nat) : portsB ws i restC = false := by
  have h8 : wiresB 8 restC = [] := by decide +kernel
  have h9 : wiresB 9 restC = [] := by decide +kernel
  unfold portsB
  rw [h8, h9]
  rfl
theorem purge_codes (R : Nat → Bool) : ∀ (i : Nat) (l : List (List O3)), codesE l = 0 → codesE (purgeC R i l) = 0
  | _, [], _ => rfl
  | i, c :: l, h => by
    unfold codesE at h
    have hc : (chk c).2 = 0 ∧ codesE l = 0 := by
      split at h
      · rename_i h1
        exact ⟨h1, h⟩
      · rename_i h1
        exact absurd h h1
    have hq : (chk (if R i = true then c else restC)).2 = 0 := by
      split
      · exact hc.1
      · exact rest_chk
    show codesE ((if R i = true then c else restC) :: purgeC R (i + 1) l) = 0
    unfold codesE
    rw [if_pos hq]
    exact purge_codes R (i + 1) l hc.2
theorem purge_ports (R : Nat → Bool) (ws : List W4) : ∀ (i : Nat) (l : List (List O3)), portsAny ws i l = false → portsAny ws i (purgeC R i l) = false
  | _, [], _ => rfl
  | i, c :: l, h => by
    rw [portsAny, Bool.or_eq_false_iff] at h
    show portsAny ws i ((if R i = true then c else restC) :: purgeC R (i + 1) l) = false
    rw [portsAny, Bool.or_eq_false_iff]
    refine ⟨?_, purge_ports R ws (i + 1) l h.2⟩
    split
    · exact h.1
    · exact rest_ports ws i
/-- A plan that is right is right without those. -/
theorem purge_right {p : PD} (R : Nat → Bool) (h : plchk p = 0) : plchk (purgeP p R) = 0 := by
  obtain ⟨h1, h2, h3, h4, h5, h6, h7, h8⟩ := plchk_zero h
  unfold plchk purgeP
  simp only [purgeC_len]
  rw [if_neg (by omega), if_neg h2, if_neg (by simpa using h3), if_neg (by simpa using h4), if_neg (by rw [h5]; decide), if_neg (by rw [h6]; decide), if_neg (by simpa using purge_codes R 0 _ h7), if_neg (by rw [purge_ports R _ 0 _ h8]; decide)]
/-- Who leads to one of them is one of them. -/
def ClosedR (ws : List W4) (R : Nat → Bool) : Prop := ∀ x ∈ ws, ∀ a b : Nat, x.1 = (a : Int) → x.2.1 = (b : Int) → R b = true → R a = true
theorem way_closed (ws : List W4) (r : Nat) (hw : ∀ x ∈ ws, ∀ b : Nat, x.2.1 = (b : Int) → b < 5) : ClosedR ws (fun i => way ws i r) := fun x hx a b ha hb hr => by
  have h1 : way ws a b = true := pm_edge _ 5 a b (by
    unfold edge
    rw [Bool.or_eq_true, List.any_eq_true]
    exact Or.inr ⟨x, hx, by simp [ha, hb]⟩)
  exact way_trans ws (hw x hx b hb) h1 hr
/-- Two kernels that are the same for some rooms, and the wires that lead to them. -/
structure Sim (ws : List W4) (R : Nat → Bool) (k m : KD) : Prop where
  time : k.time = m.time
  rooms : ∀ i, R i = true → k.rooms[i]? = m.rooms[i]?
  lines : ∀ (i : Nat) x (b : Nat), ws[i]? = some x → x.2.1 = (b : Int) → R b = true → k.lines[i]? = m.lines[i]?
theorem sim_new (p : PD) (R : Nat → Bool) : Sim p.wires R (newK p) (newK (purgeP p R)) := by
  refine ⟨rfl, fun i _ => ?_, fun i x b _ _ _ => rfl⟩
  simp only [newK, purgeP, List.getElem?_map, purgeC_at]
  cases p.code[i]? <;> rfl
/-- A room that is one of them does its turn alike. -/
theorem turn_sim {p q : PD} {R : Nat → Bool} {k m : KD} {r : Nat} {c : List O3} {s : St} {o : O3} (hp : plchk p = 0) (hk : KOk p k) (hm : KOk q m) (hqw : q.wires = p.wires) (tk : Turn p k r c s o) (tm : Turn q m r c s o) (hr : R r = true) (h : Sim p.wires R k m) : Sim p.wires R (turnK p k r).1 (turnK q m r).1 := by
  have hrk : r < k.rooms.length := (List.getElem?_eq_some_iff.1 tk.hs).1
  have hrm : r < m.rooms.length := (List.getElem?_eq_some_iff.1 tm.hs).1
  have ht : k.time + 1 = m.time + 1 := by rw [h.time]
  have hrooms : ∀ (s' : St) i, R i = true → (k.rooms.set r s')[i]? = (m.rooms.set r s')[i]? := fun s' i hi => by
    by_cases hir : r = i
    · subst hir
      rw [List.getElem?_set_self hrk, List.getElem?_set_self hrm]
    · rw [List.getElem?_set_ne hir, List.getElem?_set_ne hir]
      exact h.rooms i hi
  have hop := op_wire hp tk.hc (List.mem_of_getElem? tk.ho)
  have hset : ∀ (z : Nat) (l : LnD) (i : Nat), k.lines[z]? ≠ none → m.lines[z]? ≠ none → k.lines[i]? = m.lines[i]? → (k.lines.set z l)[i]? = (m.lines.set z l)[i]? := fun z l i h1 h2 h3 => by
    by_cases hzi : z = i
    · subst hzi
      have hz1 : z < k.lines.length := by
        rcases Nat.lt_or_ge z k.lines.length with h4 | h4
        · exact h4
        · exact absurd (List.getElem?_eq_none h4) h1
      have hz2 : z < m.lines.length := by
        rcases Nat.lt_or_ge z m.lines.length with h4 | h4
        · exact h4
        · exact absurd (List.getElem?_eq_none h4) h2
      rw [List.getElem?_set_self hz1, List.getElem?_set_self hz2]
    · rw [List.getElem?_set_ne hzi, List.getElem?_set_ne hzi]
      exact h3
  cases hf : s.f with
  | true =>
    rw [turn_failed tk hf, turn_failed tm hf]
    exact ⟨ht, h.rooms, h.lines⟩
  | false =>
    by_cases h9 : o.1 = 9
    · obtain ⟨x, hx, hxr⟩ := hop.2 h9
      have hlt : o.2.2.toNat < k.lines.length := by rw [hk.ll]; exact (List.getElem?_eq_some_iff.1 hx).1
      have hl1 : k.lines[o.2.2.toNat]? = some k.lines[o.2.2.toNat] := List.getElem?_eq_getElem hlt
      have hl2 : m.lines[o.2.2.toNat]? = some k.lines[o.2.2.toNat] := by rw [← h.lines _ x r hx hxr hr]; exact hl1
      generalize k.lines[o.2.2.toNat] = l at hl1 hl2
      cases hh : (headL l).2 with
      | true =>
        rw [turn_takes tk hf h9 hl1 hh, turn_takes tm hf h9 hl2 hh]
        exact ⟨ht, hrooms _, fun i y b hy hb hR => hset _ _ i (by rw [hl1]; simp) (by rw [hl2]; simp) (h.lines i y b hy hb hR)⟩
      | false =>
        rw [turn_waits tk hf h9 hl1 hh, turn_waits tm hf h9 hl2 hh]
        exact ⟨ht, hrooms _, h.lines⟩
    · by_cases h8 : o.1 = 8
      · obtain ⟨x, hx, hxr⟩ := hop.1 h8
        have hlt : o.2.2.toNat < k.lines.length := by rw [hk.ll]; exact (List.getElem?_eq_some_iff.1 hx).1
        have hlt2 : o.2.2.toNat < m.lines.length := by rw [hm.ll, hqw]; exact (List.getElem?_eq_some_iff.1 hx).1
        have hl1 : k.lines[o.2.2.toNat]? = some k.lines[o.2.2.toNat] := List.getElem?_eq_getElem hlt
        have hl2 : m.lines[o.2.2.toNat]? = some m.lines[o.2.2.toNat] := List.getElem?_eq_getElem hlt2
        rw [turn_sends tk hf h8 hl1, turn_sends tm hf h8 hl2]
        refine ⟨ht, hrooms _, fun i y b hy hb hR => ?_⟩
        by_cases hzi : o.2.2.toNat = i
        · subst hzi
          have he := h.lines _ y b hy hb hR
          rw [hl1, hl2] at he
          rw [Option.some.inj he]
          rw [List.getElem?_set_self hlt, List.getElem?_set_self hlt2]
        · show (k.lines.set _ _)[i]? = (m.lines.set _ _)[i]?
          rw [List.getElem?_set_ne hzi, List.getElem?_set_ne hzi]
          exact h.lines i y b hy hb hR
      · rw [turn_else tk hf h8 h9, turn_else tm hf h8 h9]
        exact ⟨ht, hrooms _, h.lines⟩
/-- WHO CANNOT TELL DOES NOT MATTER: one tick. -/
theorem sim_tick {p : PD} {R : Nat → Bool} {k m : KD} (hp : plchk p = 0) (hk : KOk p k) (hm : KOk (purgeP p R) m) (hc : ClosedR p.wires R) (hw0 : ∀ x ∈ p.wires, 0 ≤ x.1) (h : Sim p.wires R k m) : Sim p.wires R (tickK p p.spans k).1 (tickK (purgeP p R) (purgeP p R).spans m).1 := by
  have hq := purge_right R hp
  have ew : whoK (purgeP p R) m = whoK p k := by
    unfold whoK purgeP
    rw [h.time]
  have htime : (tickK p p.spans k).1.time = (tickK (purgeP p R) (purgeP p R).spans m).1.time := by rw [tick_time, tick_time, h.time]
  by_cases hneg : whoK p k < 0
  · have e1 : tickK p p.spans k = (⟨k.rooms, k.lines, k.time + 1⟩, k.time, whoK p k, 0, 0) := by
      unfold whoK at hneg ⊢
      unfold tickK
      simp only
      rw [if_pos hneg]
    have e2 : (tickK (purgeP p R) (purgeP p R).spans m).1 = ⟨m.rooms, m.lines, m.time + 1⟩ := by
      have hneg2 : whoK (purgeP p R) m < 0 := by rw [ew]; exact hneg
      unfold whoK at hneg2
      unfold tickK
      simp only
      rw [if_pos hneg2]
    rw [e1, e2]
    exact ⟨by rw [h.time], h.rooms, h.lines⟩
  · obtain ⟨rn, hrn⟩ : ∃ n : Nat, whoK p k = n := ⟨(whoK p k).toNat, by omega⟩
    have hrl : rn < p.code.length := by
      have := (who_room hp (k.time % p.ticks)).2
      unfold whoK at hrn
      rw [hrn] at this
      simpa using this (by omega)
    have hrl2 : rn < (purgeP p R).code.length := by
      show rn < (purgeC R 0 p.code).length
      rw [purgeC_len]
      exact hrl
    cases hR : R rn with
    | false =>
      refine ⟨htime, fun i hi => ?_, fun i x b hx hb hRb => ?_⟩
      · have hne : i ≠ rn := fun e => by rw [e, hR] at hi; cases hi
        rw [tick_room (p := p) (k := k) (r := i) (by rw [hrn]; omega), tick_room (p := purgeP p R) (k := m) (r := i) (by rw [ew, hrn]; omega)]
        exact h.rooms i hi
      · obtain ⟨a, ha⟩ : ∃ n : Nat, x.1 = n := ⟨x.1.toNat, by have := hw0 x (List.mem_of_getElem? hx); omega⟩
        have hRa := hc x (List.mem_of_getElem? hx) a b ha hb hRb
        have hne1 : a ≠ rn := fun e => by rw [e, hR] at hRa; cases hRa
        have hne2 : b ≠ rn := fun e => by rw [e, hR] at hRb; cases hRb
        rw [tick_line hp hk hx (by rw [ha, hrn]; omega) (by rw [hb, hrn]; omega), tick_line hq hm (show (purgeP p R).wires[i]? = some x from hx) (by rw [ha, ew, hrn]; omega) (by rw [hb, ew, hrn]; omega)]
        exact h.lines i x b hx hb hRb
    | true =>
      have e1 : (tickK p p.spans k).1 = (turnK p k rn).1 := by
        unfold whoK at hrn
        unfold tickK
        simp only [hrn]
        rw [if_neg (by omega), Int.toNat_natCast]
      have e2 : (tickK (purgeP p R) (purgeP p R).spans m).1 = (turnK (purgeP p R) m rn).1 := by
        have hrn2 : whoK (purgeP p R) m = rn := by rw [ew]; exact hrn
        unfold whoK at hrn2
        unfold tickK
        simp only [hrn2]
        rw [if_neg (by omega), Int.toNat_natCast]
      rw [e1, e2]
      obtain ⟨c, s, o, tk⟩ := turn_of hp hk hrl
      have hs2 : m.rooms[rn]? = some s := by rw [← h.rooms rn hR]; exact tk.hs
      have hc2 : (purgeP p R).code[rn]? = some c := by
        show (purgeC R 0 p.code)[rn]? = some c
        rw [purgeC_at, tk.hc, Nat.zero_add]
        simp [hR]
      have tm : Turn (purgeP p R) m rn c s o := ⟨hc2, hs2, tk.ho, tk.ck, tk.st, tk.ok⟩
      exact turn_sim hp hk hm rfl tk tm hR h
/-- .. all along. -/
theorem sim_all {p : PD} {R : Nat → Bool} (hp : plchk p = 0) (hc : ClosedR p.wires R) (hw0 : ∀ x ∈ p.wires, 0 ≤ x.1) : ∀ t, Sim p.wires R (kT p t) (kT (purgeP p R) t)
  | 0 => sim_new p R
  | t + 1 => sim_tick hp (kT_ok hp t) (kT_ok (purge_right R hp) t) hc hw0 (sim_all hp hc hw0 t)
theorem purge_states {p : PD} {r : Nat} (hp : plchk p = 0) (n : Nat) : statesK (purgeP p (fun i => way p.wires i r)) n r = statesK p n r := by
  have hrange : ∀ x ∈ p.wires, 0 ≤ x.1 ∧ x.1 < 5 ∧ 0 ≤ x.2.1 ∧ x.2.1 < 5 := fun x hx => by
    have h1 := (wschk_ok (plchk_zero hp).2.2.2.1).2 x hx
    unfold w4chk wchk at h1
    split at h1
    · rename_i h2
      omega
    · cases h1
  have h := sim_all hp (way_closed p.wires r (fun x hx b hb => by have := hrange x hx; omega)) (fun x hx => (hrange x hx).1)
  unfold statesK
  apply List.map_congr_left
  intro t _
  have := (h t).rooms r (way_self _ _)
  rw [List.getD, List.getD, this]
end Go.Proofs.YtfconbblnmbnpafGreatDoor
namespace Go.Proofs.YtfconbblnmbnpafGreatDoor

/-- A kernel, and how often each room was helped. -/
structure CD where
  k : KD
  ts : List Int
/-- What is wrong with a plan and its rules. -/
def ruleOut (n : Int) : Bool := decide (n < 0) || decide (2 < n)
def carE (p : PD) (what : List Int) (most : Int) : Int :=
  if plchk p = 0 then (if what.length = p.code.length then (if what.any ruleOut = true then 1 else if most < 0 ∨ 100 < most then 1 else 0) else 3) else plchk p
theorem carE_zero {p : PD} {what : List Int} {most : Int} (h : carE p what most = 0) : plchk p = 0 ∧ what.length = p.code.length ∧ (∀ n ∈ what, 0 ≤ n ∧ n ≤ 2) ∧ 0 ≤ most ∧ most ≤ 100 := by
  unfold carE at h
  split at h
  · rename_i h1
    split at h
    · rename_i h2
      split at h
      · omega
      · rename_i h3
        split at h
        · omega
        · refine ⟨h1, h2, fun n hn => ?_, by omega, by omega⟩
          have h3' : what.any ruleOut = false := by simpa using h3
          have := any_of_all h3' hn
          unfold ruleOut at this
          simp only [Bool.or_eq_false_iff, decide_eq_false_iff_not] at this
          omega
    · omega
  · rename_i h1
    exact absurd h h1
def newC (p : PD) : CD := ⟨newK p, p.code.map fun _ => 0⟩
/-- Is a room helped? -/
def caresB (what : List Int) (most : Int) (d : CD) (r : Nat) : Bool := (d.k.rooms.getD r stNew).f && (decide (0 < what.getD r 0) && decide (d.ts.getD r 0 < most))
/-- A room that is helped. -/
def helpS (p : PD) (what : List Int) (r : Nat) (s : St) : St := if what.getD r 0 = 1 then stNew else ⟨if s.p + 1 = ((p.code.getD r []).length : Int) then 0 else s.p + 1, s.c, false⟩
def helpC (p : PD) (what : List Int) (most : Int) (d : CD) : CD :=
  if 0 ≤ whoK p d.k ∧ caresB what most d (whoK p d.k).toNat = true then ⟨⟨d.k.rooms.set (whoK p d.k).toNat (helpS p what (whoK p d.k).toNat (d.k.rooms.getD (whoK p d.k).toNat stNew)), d.k.lines, d.k.time⟩, d.ts.set (whoK p d.k).toNat (d.ts.getD (whoK p d.k).toNat 0 + 1)⟩ else d
/-- A tick; what is told of it is the kernel's. -/
def tickC (p : PD) (what : List Int) (most : Int) (d : CD) : CD := ⟨(tickK p p.spans (helpC p what most d).k).1, (helpC p what most d).ts⟩
def evC (p : PD) (what : List Int) (most : Int) (d : CD) : Int × Int × Int × Int := (tickK p p.spans (helpC p what most d).k).2
structure COk (p : PD) (what : List Int) (most : Int) (d : CD) : Prop where
  k : KOk p d.k
  tl : d.ts.length = p.code.length
  ts : ∀ (i : Nat) t, d.ts[i]? = some t → 0 ≤ t ∧ t ≤ most ∧ (what.getD i 0 ≤ 0 → t = 0)
theorem help_time (p : PD) (what : List Int) (most : Int) (d : CD) : (helpC p what most d).k.time = d.k.time := by
  unfold helpC
  split <;> rfl
theorem help_lines (p : PD) (what : List Int) (most : Int) (d : CD) : (helpC p what most d).k.lines = d.k.lines := by
  unfold helpC
  split <;> rfl
theorem help_who (p : PD) (what : List Int) (most : Int) (d : CD) : whoK p (helpC p what most d).k = whoK p d.k := by
  unfold whoK
  rw [help_time]
theorem help_other (p : PD) (what : List Int) (most : Int) (d : CD) {r : Nat} (hr : (r : Int) ≠ whoK p d.k) : (helpC p what most d).k.rooms[r]? = d.k.rooms[r]? ∧ (helpC p what most d).ts[r]? = d.ts[r]? := by
  unfold helpC
  split
  · rename_i h
    exact ⟨List.getElem?_set_ne (by omega), List.getElem?_set_ne (by omega)⟩
  · exact ⟨rfl, rfl⟩
theorem help_no {p : PD} {what : List Int} {most : Int} {d : CD} (h : ¬ (0 ≤ whoK p d.k ∧ caresB what most d (whoK p d.k).toNat = true)) : helpC p what most d = d := by
  unfold helpC
  rw [if_neg h]
theorem help_yes {p : PD} {what : List Int} {most : Int} {d : CD} {rn : Nat} {s : St} {t : Int} (hr : whoK p d.k = rn) (hs : d.k.rooms[rn]? = some s) (ht : d.ts[rn]? = some t) (hc : caresB what most d rn = true) : helpC p what most d = ⟨⟨d.k.rooms.set rn (helpS p what rn s), d.k.lines, d.k.time⟩, d.ts.set rn (t + 1)⟩ := by
  unfold helpC
  rw [hr, Int.toNat_natCast, if_pos ⟨by omega, hc⟩]
  simp only [List.getD, hs, ht, Option.getD_some]
theorem newC_ok {p : PD} {what : List Int} {most : Int} (h : carE p what most = 0) : COk p what most (newC p) := by
  obtain ⟨h1, h2, h3, h4, h5⟩ := carE_zero h
  refine ⟨new_ok h1, by simp [newC], fun i t ht => ?_⟩
  unfold newC at ht
  simp only [List.getElem?_map] at ht
  obtain ⟨_, _, rfl⟩ := Option.map_eq_some_iff.1 ht
  exact ⟨Int.le_refl _, h4, fun _ => rfl⟩
theorem helpC_ok {p : PD} {what : List Int} {most : Int} {d : CD} (hp : plchk p = 0) (h : COk p what most d) : COk p what most (helpC p what most d) := by
  unfold helpC
  split
  · rename_i hc
    obtain ⟨hw, hc⟩ := hc
    unfold caresB at hc
    simp only [Bool.and_eq_true, decide_eq_true_eq] at hc
    obtain ⟨hf, hwt, hts⟩ := hc
    obtain ⟨rn, hrn⟩ : ∃ n : Nat, whoK p d.k = n := ⟨(whoK p d.k).toNat, by omega⟩
    rw [hrn, Int.toNat_natCast] at hf hwt hts ⊢
    have hlt : rn < p.code.length := by
      have := (who_room hp (d.k.time % p.ticks)).2
      unfold whoK at hrn
      rw [hrn] at this
      simpa using this (by omega)
    have hrl : rn < d.k.rooms.length := by rw [h.k.rl]; exact hlt
    have htl : rn < d.ts.length := by rw [h.tl]; exact hlt
    refine ⟨⟨by simp [h.k.rl], h.k.ll, fun i c s hi hs => ?_, h.k.lines, h.k.lost, h.k.time⟩, by simp [h.tl], fun i t ht => ?_⟩
    · by_cases hir : rn = i
      · subst hir
        simp only at hs
        rw [List.getElem?_set_self hrl] at hs
        obtain rfl := Option.some.inj hs
        have hs0 : d.k.rooms[rn]? = some (d.k.rooms.getD rn stNew) := by simp [List.getD, hrl]
        have hst := stOk_iff.1 (h.k.rooms rn c _ hi hs0)
        have hce : p.code.getD rn [] = c := by simp [List.getD, hi]
        unfold helpS
        rw [stOk_iff]
        split
        · refine ⟨Int.le_refl _, ?_, fun i _ => ⟨Int.le_refl _, by simp [stNew]⟩⟩
          show (0 : Int) < _
          omega
        · rw [hce]
          by_cases h1 : (d.k.rooms.getD rn stNew).p + 1 = (c.length : Int)
          · rw [if_pos h1]
            exact ⟨Int.le_refl _, by show (0 : Int) < _; omega, hst.2.2⟩
          · rw [if_neg h1]
            exact ⟨by show 0 ≤ (d.k.rooms.getD rn stNew).p + 1; omega, by show (d.k.rooms.getD rn stNew).p + 1 < _; omega, hst.2.2⟩
      · simp only at hs
        rw [List.getElem?_set_ne hir] at hs
        exact h.k.rooms i c s hi hs
    · by_cases hir : rn = i
      · subst hir
        simp only at ht
        rw [List.getElem?_set_self htl] at ht
        obtain rfl := Option.some.inj ht
        have h0 := h.ts rn d.ts[rn] (List.getElem?_eq_getElem htl)
        have he : d.ts.getD rn 0 = d.ts[rn] := by simp [List.getD, htl]
        rw [he] at hts ⊢
        exact ⟨by omega, by omega, fun hh => by omega⟩
      · simp only at ht
        rw [List.getElem?_set_ne hir] at ht
        exact h.ts i t ht
  · exact h
theorem tickC_ok {p : PD} {what : List Int} {most : Int} {d : CD} (hp : plchk p = 0) (h : COk p what most d) : COk p what most (tickC p what most d) := by
  have h' := helpC_ok hp h
  exact ⟨tick_ok hp h'.k, h'.tl, h'.ts⟩
/-- No room has failed. -/
def NoneF (k : KD) : Prop := ∀ (i : Nat) s, k.rooms[i]? = some s → s.f = false
theorem none_new (p : PD) : NoneF (newK p) := fun i s h => by
  unfold newK at h
  simp only [List.getElem?_map] at h
  obtain ⟨_, _, rfl⟩ := Option.map_eq_some_iff.1 h
  rfl
/-- Where none failed none is helped. -/
theorem none_help {p : PD} {what : List Int} {most : Int} {d : CD} (h : NoneF d.k) : helpC p what most d = d := by
  unfold helpC
  split
  · rename_i hc
    obtain ⟨_, hc⟩ := hc
    unfold caresB at hc
    simp only [Bool.and_eq_true] at hc
    obtain ⟨hf, _⟩ := hc
    generalize (whoK p d.k).toNat = r at hf
    cases hr : d.k.rooms[r]? with
    | none => rw [List.getD, hr] at hf; cases hf
    | some s =>
      rw [List.getD, hr] at hf
      have := h r s hr
      simp only [Option.getD_some] at hf
      rw [this] at hf
      cases hf
  · rfl
/-- Who fails at a tick is told. -/
theorem none_tick {p : PD} {k : KD} (hp : plchk p = 0) (hk : KOk p k) (h : NoneF k) (h4 : (tickK p p.spans k).2.2.2.2 ≠ 4) : NoneF (tickK p p.spans k).1 := by
  by_cases hneg : whoK p k < 0
  · have e1 : (tickK p p.spans k).1 = ⟨k.rooms, k.lines, k.time + 1⟩ := by
      unfold whoK at hneg
      unfold tickK
      simp only
      rw [if_pos hneg]
    rw [e1]
    exact h
  · obtain ⟨rn, hrn⟩ : ∃ n : Nat, whoK p k = n := ⟨(whoK p k).toNat, by omega⟩
    have hrl : rn < p.code.length := by
      have := (who_room hp (k.time % p.ticks)).2
      unfold whoK at hrn
      rw [hrn] at this
      simpa using this (by omega)
    have e1 : tickK p p.spans k = ((turnK p k rn).1, k.time, (rn : Int), (turnK p k rn).2.1, (turnK p k rn).2.2) := by
      unfold whoK at hrn
      unfold tickK
      simp only [hrn]
      rw [if_neg (by omega), Int.toNat_natCast]
    rw [e1] at h4 ⊢
    obtain ⟨c, s, o, tk⟩ := turn_of hp hk hrl
    obtain ⟨a1, a2, a3⟩ := tk.at
    have hf := h rn s tk.hs
    intro i s' hs'
    by_cases hir : rn = i
    · subst hir
      have hroom : (turnK p k rn).1.rooms = k.rooms.set rn (stepF o s c.length (gotK k o s).1 (gotK k o s).2) := by
        unfold turnK
        simp only [a1, a2, a3]
      simp only [hroom] at hs'
      rw [List.getElem?_set_self (List.getElem?_eq_some_iff.1 tk.hs).1] at hs'
      obtain rfl := Option.some.inj hs'
      unfold stepF
      rw [if_neg (by rw [hf]; decide)]
      show decide (o.1 = 11) = false
      apply decide_eq_false
      intro h11
      apply h4
      have := turn_else tk hf (by omega) (by omega)
      simp only [this, h11, if_true]
    · have := tick_room (p := p) (k := k) (r := i) (by rw [hrn]; omega)
      rw [e1] at this
      simp only at this hs'
      rw [this] at hs'
      exact h i s' hs'
/-- Two kernels with rules that are the same for some rooms, and the wires that lead to them. -/
structure SimC (ws : List W4) (R : Nat → Bool) (d e : CD) : Prop where
  k : Sim ws R d.k e.k
  ts : ∀ i, R i = true → d.ts[i]? = e.ts[i]?
theorem simC_new (p : PD) (R : Nat → Bool) : SimC p.wires R (newC p) (newC (purgeP p R)) := by
  refine ⟨sim_new p R, fun i _ => ?_⟩
  simp only [newC, purgeP, List.getElem?_map, purgeC_at]
  cases p.code[i]? <;> rfl
theorem simC_help {p : PD} {R : Nat → Bool} {what : List Int} {most : Int} {d e : CD} (hd : COk p what most d) (he : COk (purgeP p R) what most e) (hp : plchk p = 0) (h : SimC p.wires R d e) : SimC p.wires R (helpC p what most d) (helpC (purgeP p R) what most e) := by
  have ew : whoK (purgeP p R) e.k = whoK p d.k := by
    unfold whoK purgeP
    rw [h.k.time]
  refine ⟨⟨by rw [help_time, help_time, h.k.time], fun i hi => ?_, fun i x b hx hb hR => by rw [help_lines, help_lines]; exact h.k.lines i x b hx hb hR⟩, fun i hi => ?_⟩
  all_goals
    by_cases hiw : (i : Int) = whoK p d.k
    case neg =>
      obtain ⟨a1, a2⟩ := help_other p what most d hiw
      obtain ⟨b1, b2⟩ := help_other (purgeP p R) what most e (r := i) (by rw [ew]; exact hiw)
      first
        | (rw [a1, b1]; exact h.k.rooms i hi)
        | (rw [a2, b2]; exact h.ts i hi)
    have hw : whoK p d.k = (i : Int) := hiw.symm
    have hlt : i < p.code.length := by
      have := (who_room hp (d.k.time % p.ticks)).2
      unfold whoK at hw
      rw [hw] at this
      simpa using this (by omega)
    have hr := h.k.rooms i hi
    have ht := h.ts i hi
    have hrl : i < d.k.rooms.length := by rw [hd.k.rl]; exact hlt
    have hrl2 : i < e.k.rooms.length := by rw [he.k.rl]; show i < (purgeC R 0 p.code).length; rw [purgeC_len]; exact hlt
    have htl : i < d.ts.length := by rw [hd.tl]; exact hlt
    have htl2 : i < e.ts.length := by rw [he.tl]; show i < (purgeC R 0 p.code).length; rw [purgeC_len]; exact hlt
    have er : d.k.rooms.getD i stNew = e.k.rooms.getD i stNew := by rw [List.getD, List.getD, hr]
    have et : d.ts.getD i 0 = e.ts.getD i 0 := by rw [List.getD, List.getD, ht]
    have ec : (purgeP p R).code.getD i [] = p.code.getD i [] := by
      show (purgeC R 0 p.code).getD i [] = _
      rw [List.getD, List.getD, purgeC_at, Nat.zero_add]
      simp [hi]
    have eb : caresB what most e i = caresB what most d i := by
      unfold caresB
      rw [er, et]
    have eh : ∀ s, helpS (purgeP p R) what i s = helpS p what i s := fun s => by
      unfold helpS
      rw [ec]
    unfold helpC
    rw [ew, hw, Int.toNat_natCast, eb]
    by_cases hcb : (0 : Int) ≤ (i : Int) ∧ caresB what most d i = true
    · rw [if_pos hcb, if_pos hcb]
      simp only [eh, ← er, ← et]
      first
        | rw [List.getElem?_set_self hrl, List.getElem?_set_self hrl2]
        | rw [List.getElem?_set_self htl, List.getElem?_set_self htl2]
    · rw [if_neg hcb, if_neg hcb]
      first
        | exact hr
        | exact ht
/-- NO OTHER ROOM SEES IT: one tick. -/
theorem simC_tick {p : PD} {R : Nat → Bool} {what : List Int} {most : Int} {d e : CD} (hp : plchk p = 0) (hd : COk p what most d) (he : COk (purgeP p R) what most e) (hc : ClosedR p.wires R) (hw0 : ∀ x ∈ p.wires, 0 ≤ x.1) (h : SimC p.wires R d e) : SimC p.wires R (tickC p what most d) (tickC (purgeP p R) what most e) := by
  have hh := simC_help hd he hp h
  exact ⟨sim_tick hp (helpC_ok hp hd).k (helpC_ok (purge_right R hp) he).k hc hw0 hh.k, hh.ts⟩
end Go.Proofs.YtfconbblnmbnpafGreatDoor
namespace Go.Proofs.YtfconbblnmbnpafGreatDoor
open Go.RowKit

/-- States as cells. -/
def stCells (l : List St) : List Value := l.flatMap fun s => [.int .i64 s.p, .int .i64 (s.c 0), .int .i64 (s.c 1), .int .i64 (s.c 2), .int .i64 (s.c 3), .int .i64 (s.c 4), .int .i64 (s.c 5), .bool s.f]
theorem stCells_snoc (l : List St) (s : St) : stCells (l ++ [s]) = stCells l ++ [.int .i64 s.p, .int .i64 (s.c 0), .int .i64 (s.c 1), .int .i64 (s.c 2), .int .i64 (s.c 3), .int .i64 (s.c 4), .int .i64 (s.c 5), .bool s.f] := by simp [stCells]
theorem stCells_at : ∀ (l : List St) (i : Nat) (s : St), l[i]? = some s → (stCells l)[i * 8]? = some (.int .i64 s.p) ∧ (stCells l)[i * 8 + 1]? = some (.int .i64 (s.c 0)) ∧ (stCells l)[i * 8 + 2]? = some (.int .i64 (s.c 1)) ∧ (stCells l)[i * 8 + 3]? = some (.int .i64 (s.c 2)) ∧ (stCells l)[i * 8 + 4]? = some (.int .i64 (s.c 3)) ∧ (stCells l)[i * 8 + 5]? = some (.int .i64 (s.c 4)) ∧ (stCells l)[i * 8 + 6]? = some (.int .i64 (s.c 5)) ∧ (stCells l)[i * 8 + 7]? = some (.bool s.f)
  | [], i, s, h => by simp at h
  | x :: l, 0, s, h => by simp at h; subst h; simp [stCells]
  | x :: l, i + 1, s, h => by
    have h1 := stCells_at l i s (by simpa using h)
    have e : ∀ j, (stCells (x :: l))[(i + 1) * 8 + j]? = (stCells l)[i * 8 + j]? := fun j => by
      show ([.int .i64 x.p, .int .i64 (x.c 0), .int .i64 (x.c 1), .int .i64 (x.c 2), .int .i64 (x.c 3), .int .i64 (x.c 4), .int .i64 (x.c 5), .bool x.f] ++ stCells l)[(i + 1) * 8 + j]? = _
      rw [List.getElem?_append_right (by simp; omega)]
      congr 1
      simp
      omega
    exact ⟨(e 0).trans h1.1, (e 1).trans h1.2.1, (e 2).trans h1.2.2.1, (e 3).trans h1.2.2.2.1, (e 4).trans h1.2.2.2.2.1, (e 5).trans h1.2.2.2.2.2.1, (e 6).trans h1.2.2.2.2.2.2.1, (e 7).trans h1.2.2.2.2.2.2.2⟩
theorem st_one (s : St) : ∀ u ∈ [Value.int .i64 s.p, .int .i64 (s.c 0), .int .i64 (s.c 1), .int .i64 (s.c 2), .int .i64 (s.c 3), .int .i64 (s.c 4), .int .i64 (s.c 5), .bool s.f], u.oneCell' = true := by
  intro u hu
  simp only [List.mem_cons, List.not_mem_nil, or_false] at hu
  rcases hu with rfl | rfl | rfl | rfl | rfl | rfl | rfl | rfl <;> rfl
theorem st_new {w : World} {k : Nat} (hk : k = w.heap.size) (s : St) (t : TypeId) : ∀ j u, [Value.int .i64 s.p, .int .i64 (s.c 0), .int .i64 (s.c 1), .int .i64 (s.c 2), .int .i64 (s.c 3), .int .i64 (s.c 4), .int .i64 (s.c 5), .bool s.f][j]? = some u → (w.alloc (.cells #[.int .i64 s.p, .int .i64 (s.c 0), .int .i64 (s.c 1), .int .i64 (s.c 2), .int .i64 (s.c 3), .int .i64 (s.c 4), .int .i64 (s.c 5), .bool s.f] t)).cell? ((⟨k, 0, none⟩ : Addr).add j) = some u := by
  intro j u hj
  subst hk
  rw [Addr.add_lit, Nat.zero_add]
  match j, hj with
  | 0, hj => simp at hj; subst hj; simp
  | 1, hj => simp at hj; subst hj; simp
  | 2, hj => simp at hj; subst hj; simp
  | 3, hj => simp at hj; subst hj; simp
  | 4, hj => simp at hj; subst hj; simp
  | 5, hj => simp at hj; subst hj; simp
  | 6, hj => simp at hj; subst hj; simp
  | 7, hj => simp at hj; subst hj; simp
  | j + 8, hj => simp at hj
theorem infoSt : (Tryz.prog.info? 47).map (fun i => (i.zero, i.size, i.bytes)) = some (some (.agg #[.int .i64 0, .int .i64 0, .int .i64 0, .int .i64 0, .int .i64 0, .int .i64 0, .int .i64 0, .bool false]), 8, 64) := by kernel_rfl
end Go.Proofs.YtfconbblnmbnpafGreatDoor
namespace Go.Proofs.YtfconbblnmbnpafGreatDoor
open Go.RowKit

theorem set4_blk {w : World} {kb : Nat} {a b c d a' b' c' d' : Value} {t : TypeId} (h : w.heap[kb]? = some (.cells #[a, b, c, d] t (0, 0))) : ((((w.setCell ⟨kb, 0, none⟩ a').setCell ⟨kb, 1, none⟩ b').setCell ⟨kb, 2, none⟩ c').setCell ⟨kb, 3, none⟩ d').heap[kb]? = some (.cells #[a', b', c', d'] t (0, 0)) := by
  simp [World.setCell, Array.getElem?_modify, h]
theorem set4_below {B : Nat} {w w' : World} (h : Below B w w') (b : Nat) (hb : B ≤ b) (x0 x1 x2 x3 : Value) : Below B w ((((w'.setCell ⟨b, 0, none⟩ x0).setCell ⟨b, 1, none⟩ x1).setCell ⟨b, 2, none⟩ x2).setCell ⟨b, 3, none⟩ x3) :=
  (((h.setCell (p := ⟨b, 0, none⟩) hb x0).setCell (p := ⟨b, 1, none⟩) hb x1).setCell (p := ⟨b, 2, none⟩) hb x2).setCell (p := ⟨b, 3, none⟩) hb x3
theorem set4_touch (w : World) (b : Nat) (x0 x1 x2 x3 : Value) : KTouch [b] w ((((w.setCell ⟨b, 0, none⟩ x0).setCell ⟨b, 1, none⟩ x1).setCell ⟨b, 2, none⟩ x2).setCell ⟨b, 3, none⟩ x3) :=
  have hm : b ∈ [b] := by simp
  (((KTouch.set w hm 0 x0).trans (KTouch.set _ hm 1 x1)).trans (KTouch.set _ hm 2 x2)).trans (KTouch.set _ hm 3 x3)
theorem blk4_cs {w : World} {kb : Nat} {a b c d : Value} {t : TypeId} (h : w.heap[kb]? = some (.cells #[a, b, c, d] t (0, 0))) : w.cell? ⟨kb, 0, none⟩ = some a ∧ w.cell? ⟨kb, 1, none⟩ = some b ∧ w.cell? ⟨kb, 2, none⟩ = some c ∧ w.cell? ⟨kb, 3, none⟩ = some d ∧ w.frozen? ⟨kb, 0, none⟩ = false ∧ w.frozen? ⟨kb, 1, none⟩ = false ∧ w.frozen? ⟨kb, 2, none⟩ = false ∧ w.frozen? ⟨kb, 3, none⟩ = false := by
  simp [World.cell?, World.frozen?, h]
end Go.Proofs.YtfconbblnmbnpafGreatDoor
namespace Go.Proofs.YtfconbblnmbnpafGreatDoor
open Go.RowKit

/-- How often a room was helped. -/
def timesC (d : CD) (r : Int) : Int := if noRoom d.k r = true then 0 else d.ts.getD r.toNat 0
/-- What package care does, in every world of a kind: K w0 w p what most d cb F: made in the world w0, of the plan p, a kernel with rules lies at block cb; it is d, and all that it has lies in the blocks F. -/
structure CarC (G : World → Prop) where
  K : World → World → PD → List Int → Int → CD → Nat → List Nat → Prop
  all : ∀ w w', G w → Below w.heap.size w w' → G w'
  since : ∀ {w0 w p what most d cb F}, K w0 w p what most d cb F → Below w0.heap.size w0 w
  ge : ∀ {w0 w p what most d cb F}, K w0 w p what most d cb F → ∀ g ∈ F, w0.heap.size ≤ g ∧ g < w.heap.size
  lower : ∀ {w1 w0 w p what most d cb F}, Below w1.heap.size w1 w0 → K w0 w p what most d cb F → K w1 w p what most d cb F
  frame : ∀ {w0 w w' p what most d cb F M}, K w0 w p what most d cb F → KTouch M w w' → (∀ m ∈ M, m ∉ F ∧ w0.heap.size ≤ m) → K w0 w' p what most d cb F
  new : ∀ (p : PD) (vc vs vw wv : Value) (what : List Int) (most : Int) (W : World), G W → Pln W vc vs vw p → Stp W wv what → carE p what most = 0 → Calls Tryz.prog 5 #[plV vc p.ticks vs vw, wv, .int .i64 most] W fun e w' => ∃ cb F, e = .returned (.tuple #[.pointer (some ⟨cb, 0, none⟩), .nilIface]) ∧ K W w' p what most (newC p) cb F
  no : ∀ (p : PD) (vc vs vw wv : Value) (what : List Int) (most : Int) (W : World), G W → Pln W vc vs vw p → Stp W wv what → carE p what most ≠ 0 → Calls Tryz.prog 5 #[plV vc p.ticks vs vw, wv, .int .i64 most] W fun e w' => ∃ x, e = .returned (.tuple #[.pointer x, wErr (carE p what most)]) ∧ Below W.heap.size W w'
  tick : ∀ {w0 W p what most d cb F}, G w0 → K w0 W p what most d cb F → carE p what most = 0 → COk p what most d → d.k.time < 100000000 → Calls Tryz.prog 10 #[.pointer (some ⟨cb, 0, none⟩)] W fun e w' => e = .returned (evA (evC p what most d)) ∧ ∃ F', K w0 w' p what most (tickC p what most d) cb F' ∧ KTouch F W w' ∧ ∀ g ∈ F', g ∈ F ∨ W.heap.size ≤ g
  state : ∀ {w0 W p what most d cb F} (r : Int), K w0 W p what most d cb F → COk p what most d → carE p what most = 0 → Calls Tryz.prog 12 #[.pointer (some ⟨cb, 0, none⟩), .int .i64 r] W fun e w' => e = .returned (.tuple #[stA (roomK d.k r), wErr (errB (noRoom d.k r))]) ∧ Below W.heap.size W w'
  times : ∀ {w0 W p what most d cb F} (r : Int), K w0 W p what most d cb F → COk p what most d → carE p what most = 0 → Calls Tryz.prog 13 #[.pointer (some ⟨cb, 0, none⟩), .int .i64 r] W fun e w' => e = .returned (.tuple #[.int .i64 (timesC d r), wErr (errB (noRoom d.k r))]) ∧ Below W.heap.size W w'
end Go.Proofs.YtfconbblnmbnpafGreatDoor
namespace Go.Proofs.YtfconbblnmbnpafGreatDoor
open Go.RowKit

def KerPoke {G : World → Prop} (C : KerC G) : Prop := ∀ {w0 W p vc vs vw k kb F} (r c n : Int), C.K w0 W p vc vs vw k kb F → KOk p k → plchk p = 0 → Calls Tryz.prog 22 #[.pointer (some ⟨kb, 0, none⟩), .int .i64 r, .int .i64 c, .int .i64 n] W fun e w' => e = .returned (wErr (pokeN k r c n)) ∧ ∃ F', C.K w0 w' p vc vs vw (pokeK k r c n) kb F' ∧ KTouch F W w' ∧ ∀ g ∈ F', g ∈ F ∨ W.heap.size ≤ g
end Go.Proofs.YtfconbblnmbnpafGreatDoor
namespace Go.Proofs.YtfconbblnmbnpafGreatDoor
open Go.ChangeShapes Go.WideShapes Go.ChangeAt Go.WideElems Go.RowKit

theorem gForms : Tryz.prog.globalNamed "framekeep/code.forms" = some 1 := by kernel_rfl
theorem tForms : (Tryz.prog.globals[1]?).map (·.type) = some 176 := by kernel_rfl
theorem cStr : Tryz.prog.cellsOf 9 = 1 := by kernel_rfl
theorem cInt : Tryz.prog.cellsOf 3 = 1 := by kernel_rfl
theorem cTwo : Tryz.prog.cellsOf 173 = 2 := by kernel_rfl
theorem cForm : Tryz.prog.cellsOf 175 = 3 := by kernel_rfl

theorem len2 {α : Type} {l : List α} (h : l.length = 2) : ∃ a b, l = [a, b] := by
  match l, h with
  | [a, b], _ => exact ⟨a, b, rfl⟩
theorem len3 {α : Type} {l : List α} (h : l.length = 3) : ∃ a b c, l = [a, b, c] := by
  match l, h with
  | [a, b, c], _ => exact ⟨a, b, c, rfl⟩
theorem two_one {H : Type} {enc : TypeId × Value → H} {w : World} {base : Nat} {sp : Nat → Bool} {held : Bool} {fuel : Nat} {cs : List Value} {p q : Int} {pl : List MemPlace}
    (h : DataW.trod enc Tryz.prog w base sp held fuel 173 cs = some (.agg [.lit (.int .i64 p), .lit (.int .i64 q)], pl)) : cs = [.int .i64 p, .int .i64 q] := by
  have := Lib.cells_of_tab (k := .i64) (zs := [p, q]) Tryz.underlying173 Tryz.underlying3 cInt cTwo h
  simpa using this
theorem form_one {H : Type} {enc : TypeId × Value → H} {w : World} {base : Nat} {sp : Nat → Bool} {held : Bool} {fuel : Nat} {cs : List Value} {s : List UInt8} {p q : Int} {pl : List MemPlace}
    (h : DataW.trod enc Tryz.prog w base sp held fuel 175 cs = some (.agg [.lit (.string s), .agg [.lit (.int .i64 p), .lit (.int .i64 q)]], pl)) : cs = [.string ⟨s.toArray⟩, .int .i64 p, .int .i64 q] := by
  obtain ⟨xs, n, _, hx, hl, hxl, hf⟩ := DataW.trod_struct Tryz.underlying175 h
  rw [cForm] at hl
  have f0 : DataW.trod enc Tryz.prog w base sp held n 9 ((cs.drop 0).take (Tryz.prog.cellsOf 9)) = xs[0]? := hf 0 _ rfl
  have f1 : DataW.trod enc Tryz.prog w base sp held n 173 ((cs.drop 1).take (Tryz.prog.cellsOf 173)) = xs[1]? := hf 1 _ rfl
  rw [cStr] at f0
  rw [cTwo] at f1
  simp only [Prod.mk.injEq, DataW.agg.injEq] at hx
  obtain ⟨c0, c1, c2, rfl⟩ := len3 hl
  have hxl2 : xs.length = 2 := hxl
  obtain ⟨x0, x1, rfl⟩ := len2 hxl2
  simp only [List.map_cons, List.map_nil, List.cons.injEq, and_true] at hx
  simp at f0 f1
  obtain ⟨y0, z0⟩ := x0
  obtain ⟨y1, z1⟩ := x1
  simp only at hx
  rw [← hx.1.1] at f0
  rw [← hx.1.2] at f1
  obtain ⟨b, hb, hb2, _⟩ := DataW.trod_string Tryz.underlying9 f0
  simp only [Prod.mk.injEq, DataW.lit.injEq, Lit.string.injEq] at hb2
  have h2 := two_one f1
  simp only [List.cons.injEq, and_true] at hb h2
  obtain ⟨rfl, rfl⟩ := h2
  rw [hb, hb2.1]

/-- The rows of the table of forms. -/
def formRows : List (List UInt8 × Int × Int) := [([], 0, 0), ([115, 101, 116], 6, 1000), ([99, 111, 112, 121], 6, 6), ([97, 100, 100], 6, 6), ([115, 117, 98], 6, 6), ([109, 117, 108], 6, 6), ([122, 101, 114, 111], 6, 0), ([106, 117, 109, 112], 1, 0), ([115, 101, 110, 100], 6, 12), ([116, 97, 107, 101], 6, 12), ([114, 101, 115, 116], 1, 1), ([102, 97, 105, 108], 1, 1)]
def formD {H : Type} (r : List UInt8 × Int × Int) : DataW H := .agg [.lit (.string r.1), .agg [.lit (.int .i64 r.2.1), .lit (.int .i64 r.2.2)]]
theorem forms_of_head {W : World} {rest : List (String × DataW Unit)} (h : laidMet Tryz.prog (("framekeep/code.forms", .agg (formRows.map formD)) :: rest) W) : Forms W := by
  obtain ⟨ps, ⟨g', t', cs, fuel, p, q, hg', ht', hvar, hd, _, _⟩, _⟩ := h
  obtain rfl := Option.some.inj (gForms.symm.trans hg')
  obtain rfl := Option.some.inj (tForms.symm.trans ht')
  obtain ⟨xs, m, _, hx, _, hxl, hel⟩ := DataW.trod_array Tryz.underlying176 hd
  simp only [Prod.mk.injEq, DataW.agg.injEq] at hx
  have hrow : ∀ (i : Nat) r, formRows[i]? = some r → (cs.toList.drop (i * 3)).take 3 = [.string ⟨r.1.toArray⟩, .int .i64 r.2.1, .int .i64 r.2.2] := by
    intro i r hr
    have hi : i < 12 := by
      rcases Nat.lt_or_ge i 12 with h | h
      · exact h
      · rw [List.getElem?_eq_none (show formRows.length ≤ i from h)] at hr; cases hr
    have e1 := hel i hi
    rw [cForm] at e1
    have e2 : (xs.map (·.1))[i]? = some (formD r) := by rw [← hx.1]; simp [hr]
    simp only [List.getElem?_map, Option.map_eq_some_iff] at e2
    obtain ⟨⟨y, z⟩, hy, rfl⟩ := e2
    rw [hy] at e1
    exact form_one e1
  have hcell := fun i => World.var?_cell hg' hvar i
  have hat : ∀ (i j : Nat) r u, formRows[i]? = some r → j < 3 → ([.string ⟨r.1.toArray⟩, .int .i64 r.2.1, .int .i64 r.2.2] : List Value)[j]? = some u → W.cell? ⟨1, i * 3 + j, none⟩ = some u := by
    intro i j r u hr hj hu
    rw [← hrow i r hr] at hu
    rw [List.getElem?_take, if_pos hj, List.getElem?_drop] at hu
    rw [hcell]
    simpa using hu
  intro i v hv
  have hi : i < 36 := by
    rcases Nat.lt_or_ge i 36 with h | h
    · exact h
    · rw [List.getElem?_eq_none (show formsCells.length ≤ i from h)] at hv; cases hv
  have key : ∀ i, i < 36 → ∀ v, formsCells[i]? = some v → ∃ r, formRows[i / 3]? = some r ∧ ([.string ⟨r.1.toArray⟩, .int .i64 r.2.1, .int .i64 r.2.2] : List Value)[i % 3]? = some v := by
    intro i hi v hv
    match i, hi with
    | 0, _ | 1, _ | 2, _ | 3, _ | 4, _ | 5, _ | 6, _ | 7, _ | 8, _ | 9, _ | 10, _ | 11, _ | 12, _ | 13, _ | 14, _ | 15, _ | 16, _ | 17, _ | 18, _ | 19, _ | 20, _ | 21, _ | 22, _ | 23, _ | 24, _ | 25, _ | 26, _ | 27, _ | 28, _ | 29, _ | 30, _ | 31, _ | 32, _ | 33, _ | 34, _ | 35, _ => exact ⟨_, rfl, hv⟩
    | i + 36, h => omega
  obtain ⟨r, h1, h2⟩ := key i hi v hv
  have := hat (i / 3) (i % 3) r v h1 (Nat.mod_lt _ (by decide)) h2
  rwa [show i / 3 * 3 + i % 3 = i by omega] at this
end Go.Proofs.YtfconbblnmbnpafGreatDoor
namespace Go.Proofs.YtfconbblnmbnpafGreatDoor
open Go.RowKit

theorem StB.set {W : World} {b : Nat} {s : St} (h : StB W b s) (s' : St) : StB (setSt W b 0 s') b s' := by
  have e : W.heap[b]? = _ := h
  unfold StB setSt
  simp [World.setCell, Array.getElem?_modify, e]
theorem StB.there {W : World} {b : Nat} {s : St} (h : StB W b s) (nq : Nat) : (W.drewN nq).there b 0 8 := there_st h.cs (fun i => by have e : W.heap[b]? = _ := h; simp [World.frozen?, e]) nq
end Go.Proofs.YtfconbblnmbnpafGreatDoor
namespace Go.Proofs.YtfconbblnmbnpafGreatDoor
open Go.RowKit

set_option maxRecDepth 100000 in
set_option maxHeartbeats 1000000 in
theorem hit_any (s : S3) (tb : Nat) (t : Int) (w : World) (ht : w.cell? ⟨tb, 0, none⟩ = some (.int .i64 t)) :
    Calls Tryz.prog 76 #[.agg #[.int .i64 s.1, .int .i64 s.2.1, .int .i64 s.2.2], .pointer (some ⟨tb, 0, none⟩)] w fun e w' => e = .returned (.bool (hits t s)) ∧ Below w.heap.size w w' := by
  have hlt := ltc ht
  have hn : tb ≠ w.heap.size := by omega
  obtain ⟨a, b, r⟩ := s
  simp only
  by_cases h1 : a ≤ t
  · by_cases h2 : t < b
    · have HF : Hid (hits t (a, b, r) = true) := by show _ = _; simp [hits, h1, h2]
      go_enter Tryz.func76, Tryz.ntmps76
      go_wp2
      go_ret
      exact ⟨retB HF.out.symm, (Below.refl _ _).alloc (Nat.le_refl _) _⟩
    · have h2' : decide (t < b) = false := by simpa using h2
      have HF : Hid (hits t (a, b, r) = false) := by show _ = _; simp [hits, h2]
      go_enter Tryz.func76, Tryz.ntmps76
      go_wp2
      go_ret
      exact ⟨retB HF.out.symm, (Below.refl _ _).alloc (Nat.le_refl _) _⟩
  · have h1' : decide (a ≤ t) = false := by simpa using h1
    have HF : Hid (hits t (a, b, r) = false) := by show _ = _; simp [hits, h1]
    go_enter Tryz.func76, Tryz.ntmps76
    go_wp2
    go_ret
    exact ⟨retB HF.out.symm, (Below.refl _ _).alloc (Nat.le_refl _) _⟩

theorem hidx_some {l : List S3} {t : Int} {k : Nat} (h : l.findIdx? (hits t) = some k) : hidx l t = k := by unfold hidx; rw [h]
theorem hidx_none {l : List S3} {t : Int} (h : l.findIdx? (hits t) = none) : hidx l t = -1 := by unfold hidx; rw [h]

set_option maxRecDepth 100000 in
set_option maxHeartbeats 2000000 in
theorem idxHold (l : List S3) (t : Int) (b off cap tb : Nat) (w : World) (ht : w.cell? ⟨tb, 0, none⟩ = some (.int .i64 t)) (hlen : l.length ≤ 12) (hlt : b < w.heap.size) (hc : SpC w b off l) :
    Calls Tryz.prog 75 #[.slice (some ⟨b, off, none⟩) l.length cap, .func (.func 76) #[] #[.pointer (some ⟨tb, 0, none⟩)]] w fun e w' =>
      e = .returned (.int .i64 (hidx l t)) ∧ Below w.heap.size w w' := by
  have hlt1 := ltc ht
  go_enter Tryz.func75, Tryz.ntmps75
  go_wp2
  go_loopw [8] (fun i wr => ∃ k : Nat, k ≤ l.length ∧ i = .int .i64 k ∧ (∀ (j : Nat) x, j < k → l[j]? = some x → hits t x = false) ∧ Below w.heap.size w wr) (fun i _ => l.length - (intOf i).toNat)
  case atStart => exact ⟨0, Nat.zero_le _, rfl, fun j x hj => by omega, Below.refl _ _⟩
  case round =>
    obtain ⟨k, hk, rfl, hall, hb⟩ := hrel
    have e1 : wr.cell? ⟨tb, 0, none⟩ = some (.int .i64 t) := (hb.cell (p := ⟨tb, 0, none⟩) hlt1).trans ht
    have Hall : Hid (∀ (j : Nat) x, j < k → l[j]? = some x → hits t x = false) := hall
    clear hall
    by_cases hkl : k < l.length
    · obtain ⟨o, ho⟩ : ∃ o, l[k]? = some o := ⟨l[k], List.getElem?_eq_getElem hkl⟩
      have HO : Hid (l[k]? = some o) := ho
      obtain ⟨c0, c1, c2⟩ := hc.below hb hlt k o ho
      clear ho
      have hon := hit_any o tb t wr e1
      clear e1
      cases hok : hits t o with
      | false =>
        have HN : Hid (hits t o = false) := hok
        rw [hok] at hon
        clear hok
        go_wp2_with (go_at_call 76; refine hon.mono ?_; rintro e w1 ⟨rfl, b1⟩; clear hon)
        go_roundw
        case rel =>
          refine ⟨k + 1, by omega, by go_num, fun j x hj hx => ?_, hb.trans (b1.mono hb.size)⟩
          by_cases hjk : j < k
          · exact Hall.out j x hjk hx
          · obtain rfl : j = k := by omega
            rw [HO.out] at hx
            obtain rfl := Option.some.inj hx
            exact HN.out
        case measure => simp [intOf]; omega
      | true =>
        have HF : Hid (l.findIdx? (hits t) = some k) := fidx_hit Hall.out HO.out hok
        rw [hok] at hon
        clear hok
        go_wp2_with (go_at_call 76; refine hon.mono ?_; rintro e w1 ⟨rfl, b1⟩; clear hon)
        go_ret
        exact ⟨retI (hidx_some HF.out).symm, hb.trans (b1.mono hb.size)⟩
    · have HF : Hid (l.findIdx? (hits t) = none) := fidx_miss (fun i x hi hx => Hall.out i x (by omega) hx)
      clear e1
      go_wp2
      go_ret
      exact ⟨retI (hidx_none HF.out).symm, hb⟩
set_option maxRecDepth 100000 in
set_option maxHeartbeats 2000000 in
theorem idxHold_nil (fn : Value) (a : Option Addr) (cap : Nat) (w : World) :
    Calls Tryz.prog 75 #[.slice a 0 cap, fn] w fun e w' => e = .returned (.int .i64 (-1)) ∧ Below w.heap.size w w' := by
  go_enter Tryz.func75, Tryz.ntmps75
  go_wp2
  refine wp_loop_rounds 1 ?_
  rw [rounds_succ]
  go_wp2
  go_ret
  exact ⟨rfl, Below.refl _ _⟩

set_option maxRecDepth 100000 in
set_option maxHeartbeats 2000000 in
theorem holder_nil (a : Option Addr) (cap : Nat) (t : Int) (w : World) :
    Calls Tryz.prog 53 #[.slice a 0 cap, .int .i64 t] w fun e w' => e = .returned (.int .i64 (-1)) ∧ Below w.heap.size w w' := by
  have hI := fun fn W => idxHold_nil fn a cap W
  go_enter Tryz.func53, Tryz.ntmps53
  go_wp2_with (go_at_call 75; refine (hI _ _).mono ?_; rintro e w1 ⟨rfl, b1⟩; clear hI)
  go_ret
  exact ⟨rfl, ((Below.refl _ _).alloc (Nat.le_refl _) _).trans (b1.mono (by simp))⟩
set_option maxRecDepth 100000 in
set_option maxHeartbeats 2000000 in
theorem holder_some (l : List S3) (b off cap : Nat) (t : Int) (w : World) (hlen : l.length ≤ 12) (hlt : b < w.heap.size) (hc : SpC w b off l) :
    Calls Tryz.prog 53 #[.slice (some ⟨b, off, none⟩) l.length cap, .int .i64 t] w fun e w' => e = .returned (.int .i64 (hold l t)) ∧ Below w.heap.size w w' := by
  have b0 : Below w.heap.size w (w.alloc (.cells #[.int .i64 t] 3)) := (Below.refl _ _).alloc (Nat.le_refl _) _
  have hI := idxHold l t b off cap w.heap.size (w.alloc (.cells #[.int .i64 t] 3)) (by simp) hlen (Nat.lt_of_lt_of_le hlt b0.size) (hc.below b0 hlt)
  cases hfi : l.findIdx? (hits t) with
  | none =>
    have HF : Hid (hold l t = -1) := hold_none hfi
    rw [hidx_none hfi] at hI
    clear hfi
    go_enter Tryz.func53, Tryz.ntmps53
    go_wp2_with (go_at_call 75; refine hI.mono ?_; rintro e w1 ⟨rfl, b1⟩; clear hI)
    go_ret
    exact ⟨retI HF.out.symm, b0.trans (b1.mono (by simp))⟩
  | some k =>
    have hk : k < l.length := by
      rw [List.findIdx?_eq_some_iff_getElem] at hfi
      exact hfi.1
    obtain ⟨o, ho⟩ : ∃ o, l[k]? = some o := ⟨l[k], List.getElem?_eq_getElem hk⟩
    have HF : Hid (hold l t = o.2.2) := hold_some hfi ho
    rw [hidx_some hfi] at hI
    obtain ⟨c0, c1, c2⟩ := hc.below b0 hlt k o ho
    have hlt' : b < (w.alloc (.cells #[.int .i64 t] 3)).heap.size := Nat.lt_of_lt_of_le hlt b0.size
    clear hfi ho
    go_enter Tryz.func53, Tryz.ntmps53
    go_wp2_with (go_at_call 75; refine hI.mono ?_; rintro e w1 ⟨rfl, b1⟩; clear hI; have d2 := (b1.cell (p := ⟨b, _, none⟩) hlt').trans c2; clear c0 c1 c2)
    go_ret
    exact ⟨retI HF.out.symm, b0.trans (b1.mono (by simp))⟩
theorem holder_any (l : List S3) (v : Value) (t : Int) (w : World) (hl : Sps w v l) (hlen : l.length ≤ 12) :
    Calls Tryz.prog 53 #[v, .int .i64 t] w fun e w' => e = .returned (.int .i64 (hold l t)) ∧ Below w.heap.size w w' := by
  rcases hl with ⟨rfl, ao, cap, rfl⟩ | ⟨b, off, cap, rfl, _, hlt, hc⟩
  · exact holder_nil ao cap t w
  · exact holder_some l b off cap t w hlen hlt hc
end Go.Proofs.YtfconbblnmbnpafGreatDoor
