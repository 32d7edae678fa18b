/-
  LogCC, LogCS, BoxTk, LogCT, POpen, StFz, WClone, WCloneR, HdRow, KerWire, LgStopM, LgKeepM, TkM, RangeState, RangeHeld, St8, TkP, Trod, LastIx, LogSt, LogGX, Numb3, Numb7: joined into one text.
-/
import Derived.Test.YtajfgmlockjmhaiGreatDoorJa2
import Derived.Test.YtajfgmlockjmhaiGreatDoorJa1
import Derived.RangeFuncOwn
import Derived.Lib.SmallJoins
import Derived.Deep.Slices
import Derived.Test.YtajfgmlockjmhaiGreatDoorJa10
import Derived.Test.YtajfgmlockjmhaiGreatDoorJa3
import Derived.RangeFuncNested
import Derived.RangeFuncBound
import Derived.RangeFuncCalls
import Derived.RangeFuncLeaves
import Derived.Test.YtajfgmlockjmhaiGreatDoorJa5
import Derived.Test.YtajfgmlockjmhaiGreatDoorJa4
import Derived.Deep.CutRange
import Derived.Deep.RegionWith
import Derived.BigQuiet
import Derived.Test.YtajfgmlockjmhaiGreatDoorJa9
namespace Go.Proofs.YtajfgmlockjmhaiGreatDoor
open Go.RowKit

def LogCrash {G : World → Prop} (C : LogC G) : Prop := ∀ {w0 W p d cb F} (n : Int), G w0 → C.K w0 W p d cb F → plchk p = 0 → LOk p d → Calls Tryz.prog 22 #[.pointer (some ⟨cb, 0, none⟩), .int .i64 n] W fun e w' => (∃ v, e = .returned v) ∧ ∃ F', C.K w0 w' p (crashL d n) cb F' ∧ KTouch F W w' ∧ ∀ g ∈ F', g ∈ F ∨ W.heap.size ≤ g
end Go.Proofs.YtajfgmlockjmhaiGreatDoor
namespace Go.Proofs.YtajfgmlockjmhaiGreatDoor
open Go.RowKit

def LogSync {G : World → Prop} (C : LogC G) : Prop := ∀ {w0 W p d cb F}, G w0 → C.K w0 W p d cb F → plchk p = 0 → LOk p d → Calls Tryz.prog 20 #[.pointer (some ⟨cb, 0, none⟩)] W fun e w' => e = .returned (wErr (syncE d)) ∧ ∃ F', C.K w0 w' p (syncL d) cb F' ∧ KTouch F W w' ∧ ∀ g ∈ F', g ∈ F ∨ W.heap.size ≤ g
end Go.Proofs.YtajfgmlockjmhaiGreatDoor
namespace Go.Proofs.YtajfgmlockjmhaiGreatDoor
open Go.RowKit

/-- What a step on a box leaves alone. -/
structure Tk (base pb : Nat) (W W' : World) : Prop where
  others : KeepsOthers W W'
  blk : ∀ k, k < base → k ≠ pb → W'.heap[k]? = W.heap[k]?
  low : Below pb W W'
theorem Tk.refl (base pb : Nat) (W : World) : Tk base pb W W := ⟨KeepsOthers.refl W, fun _ _ _ => rfl, Below.refl _ _⟩
theorem Tk.trans {base pb : Nat} {A B C : World} (h : Tk base pb A B) (k : Tk base pb B C) : Tk base pb A C := ⟨h.others.trans k.others, fun j h1 h2 => (k.blk j h1 h2).trans (h.blk j h1 h2), h.low.trans k.low⟩
theorem Tk.of_below {base pb : Nat} {W W' : World} (hb : Below W.heap.size W W') (h1 : base ≤ W.heap.size) (h2 : pb < base) : Tk base pb W W' :=
  ⟨⟨hb.size, fun k _ hk _ => (hb.block k (Array.getElem?_eq_some_iff.1 hk).1).trans hk⟩, fun k hk _ => hb.block k (by omega), hb.mono (by omega)⟩
theorem Tk.set (base : Nat) {pb : Nat} (W : World) (i : Nat) (v : Value) : Tk base pb W (W.setCell ⟨pb, i, none⟩ v) :=
  ⟨KeepsOthers.setCell _ _ _, fun _ _ hk => Below.heap_setCell _ _ _ _ hk, (Below.refl _ _).setCell (p := ⟨pb, i, none⟩) (Nat.le_refl _) _⟩
theorem Tk.setRow {base pb : Nat} (W : World) {g : Nat} (hg : base ≤ g) (h : pb < base) (i : Nat) (v : Value) : Tk base pb W (W.setCell ⟨g, i, none⟩ v) :=
  ⟨KeepsOthers.setCell _ _ _, fun k hk _ => Below.heap_setCell _ _ _ _ (show k ≠ g by omega), (Below.refl _ _).setCell (p := ⟨g, i, none⟩) (show pb ≤ g by omega) _⟩
theorem Tk.grown {base pb : Nat} {W W' : World} {e : TypeId} {size n : Nat} {v : Value} {xs : List Value} (hown : W.ownsRow base e size v n xs) (hg : W.grownBy W' v.ownBlock) (h1 : base ≤ W.heap.size) (h2 : pb < base) : Tk base pb W W' := by
  have hrow : ∀ j, v.ownBlock = some j → base ≤ j ∧ ∃ c fz, W.heap[j]? = some (.cells c e fz) := fun j hj => by
    refine ⟨(hown.lt j hj).1, ?_⟩
    rcases hown.2 with ⟨hv, _⟩ | ⟨g, cap, cur, hv, _, hgc, _⟩
    · rw [hv] at hj; cases hj
    · rw [hv] at hj
      simp only [Value.ownBlock, Option.some.injEq] at hj
      exact ⟨_, _, by rw [← hj]; exact hgc⟩
  refine ⟨⟨hg.size, fun k o hk ho => ?_⟩, fun k hk _ => hg.block k (by omega) (fun e' => by have := (hrow k e'.symm).1; omega), (Below.refl pb W).grown hg (by omega) (fun j hj => by have := (hrow j hj).1; omega)⟩
  refine (hg.block k (Array.getElem?_eq_some_iff.1 hk).1 (fun e' => ?_)).trans hk
  obtain ⟨_, c, fz, hc⟩ := hrow k e'.symm
  rw [hc] at hk
  cases hk
  cases ho
end Go.Proofs.YtajfgmlockjmhaiGreatDoor
namespace Go.Proofs.YtajfgmlockjmhaiGreatDoor
open Go.RowKit

def LogState {G : World → Prop} (C : LogC G) : Prop := ∀ {w0 W p d cb F} (r : Int), C.K w0 W p d cb F → LOk p d → plchk p = 0 → Calls Tryz.prog 31 #[.pointer (some ⟨cb, 0, none⟩), .int .i64 r] W fun e w' => e = .returned (.tuple #[stA (roomK (d.k p) r), wErr (errB (noRoom (d.k p) r))]) ∧ Below W.heap.size W w'
end Go.Proofs.YtajfgmlockjmhaiGreatDoor
namespace Go.Proofs.YtajfgmlockjmhaiGreatDoor
open Go.ChangeShapes Go.WideShapes Go.ChangeAt Go.WideElems Go.RowKit Go.Deep

theorem pk_spot {W : World} {a : Addr} {v : Value} (h : W.cell? a = some v) : a = ⟨a.block, a.off, none⟩ ∧ a.block < W.heap.size := by
  obtain ⟨b, o, s⟩ := a
  unfold World.cell? at h
  simp only at h
  cases hb : W.heap[b]? with
  | none => rw [hb] at h; cases h
  | some x =>
    rw [hb] at h
    refine ⟨?_, (Array.getElem?_eq_some_iff.1 hb).1⟩
    cases x <;> simp at h
    cases s with
    | none => rfl
    | some s => simp at h
theorem pk_lt {α : Type} [Inhabited α] {p : Nat → α → Prop} {n : Nat} (h : ∀ i, i < n → ∃ x, p i x) : ∃ f : Nat → α, ∀ i, i < n → p i (f i) := by
  refine ⟨fun i => if hi : i < n then (h i hi).choose else default, fun i hi => ?_⟩
  simp only [hi, dif_pos]
  exact (h i hi).choose_spec
/-- A slice read as data, at the level of its cell. -/
theorem pk_slice {α : Type} [Inhabited α] {H : Type} {enc : TypeId × Value → H} {P : Program} {W : World} {base : Nat} {sp : Nat → Bool} {held : Bool} {fuel : Nat} {cs : List Value} {x : DataW H × List MemPlace} {t e : TypeId} {k : Nat}
    (ht : P.underlying t = some (.slice e)) (hk : P.cellsOf e = k) (hk0 : 0 < k) (R : List Value → α → Prop)
    (hel : ∀ (n : Nat) (cs : List Value) (x : DataW H × List MemPlace), DataW.trod enc P W base sp held n e cs = some x → ∃ o, R cs o)
    (h : DataW.trod enc P W base sp held fuel t cs = some x) :
    ∃ a len cap, cs = [.slice a len cap] ∧ (len = 0 ∨ ∃ b off, a = some ⟨b, off, none⟩ ∧ len ≤ cap ∧ b < W.heap.size ∧ ∃ l : List α, l.length = len ∧ ∀ i o, l[i]? = some o → ∃ us, us.length = k ∧ R us o ∧ ∀ j, j < k → W.cell? ⟨b, off + i * k + j, none⟩ = us[j]?) := by
  rcases open_slice ht h with ⟨rfl, _⟩ | ⟨a, len, cap, m, n, D, Pl, rfl, _, hl, _, hm, _, he⟩
  · exact ⟨none, 0, 0, rfl, Or.inl rfl⟩
  · refine ⟨some a, len, cap, rfl, ?_⟩
    have hlm : len ≤ m := by rw [hm]; split <;> omega
    by_cases h0 : len = 0
    · exact Or.inl h0
    · rw [hk] at he
      obtain ⟨F, hF⟩ := pk_lt (α := α × List Value) (p := fun i o => o.2.length = k ∧ R o.2 o.1 ∧ ∀ j, j < k → W.cell? ((a.add (i * k)).add j) = o.2[j]?) (n := len) (fun i hi => by
        obtain ⟨us, h1, h2⟩ := he i (by omega)
        obtain ⟨o, ho⟩ := hel _ _ _ h2
        obtain ⟨_, h3, h4⟩ := World.cells?_some h1
        exact ⟨(o, us), h3, ho, h4⟩)
      obtain ⟨l0, _, c0⟩ := hF 0 (by omega)
      have hz := c0 0 hk0
      rw [show (a.add (0 * k)).add 0 = a from by simp [Addr.add], List.getElem?_eq_getElem (by omega)] at hz
      obtain ⟨ha, hlt⟩ := pk_spot hz
      refine Or.inr ⟨a.block, a.off, by rw [← ha], hl, hlt, (List.range len).map (fun i => (F i).1), by simp, fun i o ho => ?_⟩
      have hi : i < len := by
        have := (List.getElem?_eq_some_iff.1 ho).1
        simpa using this
      have hoi : (F i).1 = o := by simpa [hi] using ho
      obtain ⟨h1, h2, h3⟩ := hF i hi
      refine ⟨(F i).2, h1, hoi ▸ h2, fun j hj => ?_⟩
      have := h3 j hj
      rw [ha] at this
      simp only [Addr.add_lit] at this
      exact this
theorem pcInt : Tryz.prog.cellsOf 3 = 1 := by kernel_rfl
theorem pcOp : Tryz.prog.cellsOf 28 = 3 := by kernel_rfl
theorem pcSpan : Tryz.prog.cellsOf 82 = 3 := by kernel_rfl
theorem pcWire : Tryz.prog.cellsOf 89 = 4 := by kernel_rfl
theorem pcOps : Tryz.prog.cellsOf 29 = 1 := by kernel_rfl
section
variable {H : Type} {enc : TypeId × Value → H} {W : World} {base : Nat} {sp : Nat → Bool} {held : Bool}
set_option maxRecDepth 100000 in
theorem pk_op (n : Nat) (cs : List Value) (x : DataW H × List MemPlace) (h : DataW.trod enc Tryz.prog W base sp held n 28 cs = some x) : ∃ o : O3, cs = [.int .i64 o.1, .int .i64 o.2.1, .int .i64 o.2.2] := by
  obtain ⟨y0, y1, y2, n, _, hl, h0, h1, h2⟩ := trod_struct3 Tryz.underlying28 h
  rw [pcOp] at hl
  match cs, hl with
  | [c0, c1, c2], _ =>
    simp only [pcInt] at h0 h1 h2
    simp at h0 h1 h2
    obtain ⟨n, e0, _, _⟩ := DataW.trod_int Tryz.underlying3 h0
    obtain ⟨a, e1, _, _⟩ := DataW.trod_int Tryz.underlying3 h1
    obtain ⟨b, e2, _, _⟩ := DataW.trod_int Tryz.underlying3 h2
    simp only [List.cons.injEq, and_true] at e0 e1 e2
    subst e0; subst e1; subst e2
    exact ⟨(n, a, b), rfl⟩
set_option maxRecDepth 100000 in
theorem pk_span (n : Nat) (cs : List Value) (x : DataW H × List MemPlace) (h : DataW.trod enc Tryz.prog W base sp held n 82 cs = some x) : ∃ o : S3, cs = [.int .i64 o.1, .int .i64 o.2.1, .int .i64 o.2.2] := by
  obtain ⟨y0, y1, y2, n, _, hl, h0, h1, h2⟩ := trod_struct3 Tryz.underlying82 h
  rw [pcSpan] at hl
  match cs, hl with
  | [c0, c1, c2], _ =>
    simp only [pcInt] at h0 h1 h2
    simp at h0 h1 h2
    obtain ⟨n, e0, _, _⟩ := DataW.trod_int Tryz.underlying3 h0
    obtain ⟨a, e1, _, _⟩ := DataW.trod_int Tryz.underlying3 h1
    obtain ⟨b, e2, _, _⟩ := DataW.trod_int Tryz.underlying3 h2
    simp only [List.cons.injEq, and_true] at e0 e1 e2
    subst e0; subst e1; subst e2
    exact ⟨(n, a, b), rfl⟩
set_option maxRecDepth 100000 in
theorem pk_wire (n : Nat) (cs : List Value) (x : DataW H × List MemPlace) (h : DataW.trod enc Tryz.prog W base sp held n 89 cs = some x) : ∃ o : W4, cs = [.int .i64 o.1, .int .i64 o.2.1, .int .i64 o.2.2.1, .int .i64 o.2.2.2] := by
  obtain ⟨y0, y1, y2, y3, n, _, hl, h0, h1, h2, h3⟩ := Joins.trod_struct4 Tryz.underlying89 h
  rw [pcWire] at hl
  match cs, hl with
  | [c0, c1, c2, c3], _ =>
    simp only [pcInt] at h0 h1 h2 h3
    simp at h0 h1 h2 h3
    obtain ⟨n, e0, _, _⟩ := DataW.trod_int Tryz.underlying3 h0
    obtain ⟨a, e1, _, _⟩ := DataW.trod_int Tryz.underlying3 h1
    obtain ⟨b, e2, _, _⟩ := DataW.trod_int Tryz.underlying3 h2
    obtain ⟨c, e3, _, _⟩ := DataW.trod_int Tryz.underlying3 h3
    simp only [List.cons.injEq, and_true] at e0 e1 e2 e3
    subst e0; subst e1; subst e2; subst e3
    exact ⟨(n, a, b, c), rfl⟩
theorem pk_ops (n : Nat) (cs : List Value) (x : DataW H × List MemPlace) (h : DataW.trod enc Tryz.prog W base sp held n 29 cs = some x) : ∃ l : List O3, ∃ u, cs = [u] ∧ Ops W u l := by
  obtain ⟨a, len, cap, rfl, hr⟩ := pk_slice (α := O3) Tryz.underlying29 pcOp (by decide) (fun cs o => cs = [.int .i64 o.1, .int .i64 o.2.1, .int .i64 o.2.2]) pk_op h
  rcases hr with rfl | ⟨b, off, rfl, _, hlt, l, rfl, hl⟩
  · exact ⟨[], _, rfl, Or.inl ⟨rfl, _, _, rfl⟩⟩
  · refine ⟨l, _, rfl, Or.inr ⟨b, off, cap, rfl, hlt, fun i o ho => ?_⟩⟩
    obtain ⟨us, _, rfl, hc⟩ := hl i o ho
    exact ⟨hc 0 (by omega), hc 1 (by omega), hc 2 (by omega)⟩
theorem pk_sps (n : Nat) (cs : List Value) (x : DataW H × List MemPlace) (h : DataW.trod enc Tryz.prog W base sp held n 23 cs = some x) : ∃ l : List S3, ∃ u, cs = [u] ∧ Sps W u l := by
  obtain ⟨a, len, cap, rfl, hr⟩ := pk_slice (α := S3) Tryz.underlying23 pcSpan (by decide) (fun cs o => cs = [.int .i64 o.1, .int .i64 o.2.1, .int .i64 o.2.2]) pk_span h
  rcases hr with rfl | ⟨b, off, rfl, hcap, hlt, l, rfl, hl⟩
  · exact ⟨[], _, rfl, Or.inl ⟨rfl, _, _, rfl⟩⟩
  · refine ⟨l, _, rfl, Or.inr ⟨b, off, cap, rfl, hcap, hlt, fun i o ho => ?_⟩⟩
    obtain ⟨us, _, rfl, hc⟩ := hl i o ho
    exact ⟨hc 0 (by omega), hc 1 (by omega), hc 2 (by omega)⟩
theorem pk_wrs (n : Nat) (cs : List Value) (x : DataW H × List MemPlace) (h : DataW.trod enc Tryz.prog W base sp held n 24 cs = some x) : ∃ l : List W4, ∃ u, cs = [u] ∧ Wrs W u l := by
  obtain ⟨a, len, cap, rfl, hr⟩ := pk_slice (α := W4) Tryz.underlying24 pcWire (by decide) (fun cs o => cs = [.int .i64 o.1, .int .i64 o.2.1, .int .i64 o.2.2.1, .int .i64 o.2.2.2]) pk_wire h
  rcases hr with rfl | ⟨b, off, rfl, hcap, hlt, l, rfl, hl⟩
  · exact ⟨[], _, rfl, Or.inl ⟨rfl, _, _, rfl⟩⟩
  · refine ⟨l, _, rfl, Or.inr ⟨b, off, cap, rfl, hcap, hlt, fun i o ho => ?_⟩⟩
    obtain ⟨us, _, rfl, hc⟩ := hl i o ho
    exact ⟨hc 0 (by omega), hc 1 (by omega), hc 2 (by omega), hc 3 (by omega)⟩
theorem pk_cds (n : Nat) (cs : List Value) (x : DataW H × List MemPlace) (h : DataW.trod enc Tryz.prog W base sp held n 22 cs = some x) : ∃ l : List (List O3), ∃ u, cs = [u] ∧ Cds W u l := by
  obtain ⟨a, len, cap, rfl, hr⟩ := pk_slice (α := List O3) Tryz.underlying22 pcOps (by decide) (fun cs l => ∃ u, cs = [u] ∧ Ops W u l) pk_ops h
  rcases hr with rfl | ⟨b, off, rfl, hcap, hlt, l, rfl, hl⟩
  · exact ⟨[], _, rfl, Or.inl ⟨rfl, _, _, rfl⟩⟩
  · refine ⟨l, _, rfl, Or.inr ⟨b, off, cap, rfl, hcap, hlt, fun i c hc => ?_⟩⟩
    obtain ⟨us, _, ⟨u, rfl, hu⟩, hc⟩ := hl i c hc
    have := hc 0 (by omega)
    exact ⟨u, by simpa using this, hu⟩
set_option maxRecDepth 100000 in
/-- A plan that came in. -/
theorem open_plan {b0 : Nat} {r : Reach} {v : Value} {d : DataW H} {p : List MemPlace} (hv : Value.okWide Tryz.prog W r b0 26 v)
    (h : DataW.Trod enc Tryz.prog W base sp held 26 v d p) : ∃ (vc vs vw : Value) (p : PD), v = plV vc p.ticks vs vw ∧ Pln W vc vs vw p := by
  obtain ⟨v0, v1, v2, v3, y0, y1, y2, y3, m, rfl, _, _, h0, h1, h2, h3⟩ := Joins.open_agg4 Tryz.underlying26 (by kernel_rfl) (by kernel_rfl) hv h
  obtain ⟨cs, u0, e0, g0⟩ := pk_cds _ _ _ h0
  obtain ⟨n, e1, _, _⟩ := DataW.trod_int Tryz.underlying3 h1
  obtain ⟨ss, u2, e2, g2⟩ := pk_sps _ _ _ h2
  obtain ⟨ws, u3, e3, g3⟩ := pk_wrs _ _ _ h3
  simp only [List.cons.injEq, and_true] at e0 e1 e2 e3
  subst e0; subst e1; subst e2; subst e3
  exact ⟨_, _, _, ⟨cs, n, ss, ws⟩, rfl, g0, g2, g3⟩
end
end Go.Proofs.YtajfgmlockjmhaiGreatDoor
namespace Go.Proofs.YtajfgmlockjmhaiGreatDoor
open Go.RowKit

theorem stb_fz {w : World} {b : Nat} {s : St} (h : StB w b s) (o : Nat) : w.frozen? ⟨b, o, none⟩ = false := by
  have e : w.heap[b]? = _ := h
  simp [World.frozen?, e]
end Go.Proofs.YtajfgmlockjmhaiGreatDoor
namespace Go.Proofs.YtajfgmlockjmhaiGreatDoor
open Go.RowKit

set_option maxRecDepth 100000 in
set_option maxHeartbeats 4000000 in
theorem clone_nil (w : World) : Calls Tryz.prog 102 #[.slice none 0 0] w fun e w' => e = .returned (.slice none 0 0) ∧ w' = w := by
  have q : ∀ (w : World) (a : Option Addr) (n c n' c' : Nat), (binOp .eql 58 (.slice a n c) (.slice none n' c')).run Tryz.prog w = .ok (.bool a.isNone) w := fun w a n c n' c' => Lib.run_eql_slice_nil w _ _ a n c n' c' Tryz.underlying58
  go_enter Tryz.func102, Tryz.ntmps102
  go_wp2
  go_ret
  exact ⟨rfl, rfl⟩
set_option maxRecDepth 100000 in
set_option maxHeartbeats 4000000 in
theorem clone_some (g cap : Nat) (xs : List Int) (w : World) (hx : xs.length ≤ 1000000) (hc : ∀ i x, (ints xs)[i]? = some x → w.cell? ⟨g, i, none⟩ = some x) :
    Calls Tryz.prog 102 #[.slice (some ⟨g, 0, none⟩) xs.length cap] w fun e w' => ∃ v', e = .returned v' ∧ w'.ownsRow w.heap.size 3 1 v' xs.length (ints xs) ∧ Below w.heap.size w w' := by
  obtain ⟨ii, hi, hz0, hz1, hz2⟩ := info_parts infoInt
  have q : ∀ (w : World) (a : Option Addr) (n c n' c' : Nat), (binOp .eql 58 (.slice a n c) (.slice none n' c')).run Tryz.prog w = .ok (.bool a.isNone) w := fun w a n c n' c' => Lib.run_eql_slice_nil w _ _ a n c n' c' Tryz.underlying58
  have HC : Hid (∀ i x, (ints xs)[i]? = some x → w.cell? ⟨g, i, none⟩ = some x) := hc
  clear hc
  go_enter Tryz.func102, Tryz.ntmps102
  go_wp2_with (at_builtin; refine wpList_append_at _ rfl _ _ 58 rfl w.heap.size 3 ii (.int .i64 0) 1 8 Tryz.underlying58 hi hz0 hz1 hz2 rfl (by decide) _ _ _ rfl (World.ownsRow_made w #[] 0 (Nat.le_refl _) (Nat.zero_le _) rfl) ⟨g, 0, none⟩ xs.length cap (ints xs) rfl ?c0A ?c1A ?c2A ?c3A ?c4A ?c5A ?_)
  case c0A => rw [ints_len, Nat.mul_one]
  case c1A =>
    intro j u hj
    have h := HC.out j u hj
    rw [Addr.add_lit, Nat.zero_add]
    exact (((Below.refl _ w).alloc (Nat.le_refl _) _).cell (p := ⟨g, j, none⟩) (wlt h)).trans h
  case c2A => intro u hu; obtain ⟨x, _, rfl⟩ := List.mem_map.1 hu; rfl
  case c3A => unfold maxLen; omega
  case c4A => omega
  case c5A => simp
  intro v1 w2 own1 hg1 hat1
  clear q
  go_wp2
  go_ret
  refine ⟨v1, rfl, by simpa using own1, ((Below.refl _ w).alloc (Nat.le_refl _) _).grown hg1 (by simp) (by intro k hk; simp [Value.ownBlock] at hk; omega)⟩
end Go.Proofs.YtajfgmlockjmhaiGreatDoor
namespace Go.Proofs.YtajfgmlockjmhaiGreatDoor
open Go.RowKit

set_option maxRecDepth 100000 in
set_option maxHeartbeats 4000000 in
theorem clone_at (a : Addr) (cap : Nat) (xs : List Int) (w : World) (hx : xs.length ≤ 1000000) (hc : ∀ i x, (ints xs)[i]? = some x → a.block < w.heap.size ∧ w.cell? (a.add i) = some x) :
    Calls Tryz.prog 102 #[.slice (some a) xs.length cap] w fun e w' => ∃ v', e = .returned v' ∧ w'.ownsRow w.heap.size 3 1 v' xs.length (ints xs) ∧ Below w.heap.size w w' := by
  obtain ⟨ii, hi, hz0, hz1, hz2⟩ := info_parts infoInt
  have q : ∀ (w : World) (a : Option Addr) (n c n' c' : Nat), (binOp .eql 58 (.slice a n c) (.slice none n' c')).run Tryz.prog w = .ok (.bool a.isNone) w := fun w a n c n' c' => Lib.run_eql_slice_nil w _ _ a n c n' c' Tryz.underlying58
  have HC : Hid (∀ i x, (ints xs)[i]? = some x → a.block < w.heap.size ∧ w.cell? (a.add i) = some x) := hc
  clear hc
  go_enter Tryz.func102, Tryz.ntmps102
  go_wp2_with (at_builtin; refine wpList_append_at _ rfl _ _ 58 rfl w.heap.size 3 ii (.int .i64 0) 1 8 Tryz.underlying58 hi hz0 hz1 hz2 rfl (by decide) _ _ _ rfl (World.ownsRow_made w #[] 0 (Nat.le_refl _) (Nat.zero_le _) rfl) a xs.length cap (ints xs) rfl ?c0A ?c1A ?c2A ?c3A ?c4A ?c5A ?_)
  case c0A => rw [ints_len, Nat.mul_one]
  case c1A =>
    intro j u hj
    obtain ⟨h0, h⟩ := HC.out j u hj
    exact (((Below.refl _ w).alloc (Nat.le_refl _) _).cell (p := a.add j) (by rw [show (a.add j).block = a.block by unfold Addr.add; split <;> rfl]; exact h0)).trans h
  case c2A => intro u hu; obtain ⟨x, _, rfl⟩ := List.mem_map.1 hu; rfl
  case c3A => unfold maxLen; omega
  case c4A => omega
  case c5A => simp
  intro v1 w2 own1 hg1 hat1
  clear q
  go_wp2
  go_ret
  refine ⟨v1, rfl, by simpa using own1, ((Below.refl _ w).alloc (Nat.le_refl _) _).grown hg1 (by simp) (by intro k hk; simp [Value.ownBlock] at hk; omega)⟩
set_option maxRecDepth 100000 in
set_option maxHeartbeats 4000000 in
theorem clone_none (cap : Nat) (w : World) : Calls Tryz.prog 102 #[.slice none 0 cap] w fun e w' => e = .returned (.slice none 0 0) ∧ w' = w := by
  have q : ∀ (w : World) (a : Option Addr) (n c n' c' : Nat), (binOp .eql 58 (.slice a n c) (.slice none n' c')).run Tryz.prog w = .ok (.bool a.isNone) w := fun w a n c n' c' => Lib.run_eql_slice_nil w _ _ a n c n' c' Tryz.underlying58
  go_enter Tryz.func102, Tryz.ntmps102
  go_wp2
  go_ret
  exact ⟨rfl, rfl⟩
theorem clone_rd (v : Value) (xs : List Int) (w : World) (hx : xs.length ≤ 1000000) (h : Rd w v xs) :
    Calls Tryz.prog 102 #[v] w fun e w' => ∃ ao cap, e = .returned (.slice ao xs.length cap) ∧ w'.ownsRow w.heap.size 3 1 (.slice ao xs.length cap) xs.length (ints xs) ∧ Below w.heap.size w w' := by
  have fin : ∀ {e : Ending} {w' : World}, (∃ v', e = .returned v' ∧ w'.ownsRow w.heap.size 3 1 v' xs.length (ints xs) ∧ Below w.heap.size w w') → ∃ ao cap, e = .returned (.slice ao xs.length cap) ∧ w'.ownsRow w.heap.size 3 1 (.slice ao xs.length cap) xs.length (ints xs) ∧ Below w.heap.size w w' := by
    rintro e w' ⟨v', he, hr, hb⟩
    rcases row_form hr with ⟨rfl, h0⟩ | ⟨g', cap', rfl⟩
    · exact ⟨none, 0, by rw [h0]; exact he, by rw [h0] at hr ⊢; exact hr, hb⟩
    · exact ⟨_, _, he, hr, hb⟩
  rcases h with ⟨rfl, ao, cap, rfl⟩ | ⟨g, off, cap, rfl, _, _, h2, h3⟩
  · cases ao with
    | none => exact (clone_none cap w).mono fun e w' ⟨he, hw⟩ => ⟨none, 0, he, World.ownsRow_nil _ _ _ _, by rw [hw]; exact Below.refl _ _⟩
    | some a => exact (clone_at a cap [] w (by simp) (fun i x h => by simp [ints] at h)).mono fun e w' h => fin h
  · refine (clone_at ⟨g, off, none⟩ cap xs w hx (fun i x h => ⟨h2, ?_⟩)).mono fun e w' h => fin h
    rw [Addr.add_lit]
    unfold ints at h
    rw [List.getElem?_map] at h
    obtain ⟨y, hy, rfl⟩ := Option.map_eq_some_iff.1 h
    exact h3 i y hy
end Go.Proofs.YtajfgmlockjmhaiGreatDoor
namespace Go.Proofs.YtajfgmlockjmhaiGreatDoor
open Go.RowKit

/-- What is held, as cells: the numbers lie where 'u' says. -/
def hdCells (l : List (Value × Int)) : List Value := l.flatMap fun x => [x.1, .int .i64 x.2]
theorem hdCells_snoc (l : List (Value × Int)) (x : Value × Int) : hdCells (l ++ [x]) = hdCells l ++ [x.1, .int .i64 x.2] := by simp [hdCells]
theorem hdCells_at : ∀ (l : List (Value × Int)) (i : Nat) (x : Value × Int), l[i]? = some x → (hdCells l)[i * 2]? = some x.1 ∧ (hdCells l)[i * 2 + 1]? = some (.int .i64 x.2)
  | [], i, x, h => by simp at h
  | y :: l, 0, x, h => by simp at h; subst h; simp [hdCells]
  | y :: l, i + 1, x, h => by
    have h1 := hdCells_at l i x (by simpa using h)
    have e : ∀ j, (hdCells (y :: l))[(i + 1) * 2 + j]? = (hdCells l)[i * 2 + j]? := fun j => by
      show ([y.1, .int .i64 y.2] ++ hdCells l)[(i + 1) * 2 + j]? = _
      rw [List.getElem?_append_right (by simp; omega)]
      congr 1
      simp
      omega
    exact ⟨(e 0).trans h1.1, (e 1).trans h1.2⟩
theorem infoHd : (Tryz.prog.info? 100).map (fun i => (i.zero, i.size, i.bytes)) = some (some (.agg #[.slice none 0 0, .int .i64 0]), 2, 32) := by kernel_rfl
theorem hd_new {w : World} {k : Nat} (hk : k = w.heap.size) (x y : Value) (t : TypeId) : ∀ j u, [x, y][j]? = some u → (w.alloc (.cells #[x, y] t)).cell? ((⟨k, 0, none⟩ : Addr).add j) = some u := by
  intro j u hj
  subst hk
  rw [Addr.add_lit, Nat.zero_add]
  match j, hj with
  | 0, hj => simp at hj; subst hj; simp
  | 1, hj => simp at hj; subst hj; simp
  | j + 2, hj => simp at hj
end Go.Proofs.YtajfgmlockjmhaiGreatDoor
namespace Go.Proofs.YtajfgmlockjmhaiGreatDoor
open Go.RowKit

/-- What a wire holds: what can be read lies in memory of its own. -/
def KerWire {G : World → Prop} (C : KerC G) : Prop := ∀ {w0 W p vc vs vw k kb F} (i : Int), C.K w0 W p vc vs vw k kb F → KOk p k → plchk p = 0 → Calls Tryz.prog 41 #[.pointer (some ⟨kb, 0, none⟩), .int .i64 i] W fun e w' => ∃ u, e = .returned (.tuple #[.agg #[u, .int .i64 (lineK k i).ls], wErr (errB (noLine k i))]) ∧ Rd w' u (lineK k i).xs ∧ (∀ g, u.ownBlock = some g → W.heap.size ≤ g ∧ g < w'.heap.size) ∧ Below W.heap.size W w'
end Go.Proofs.YtajfgmlockjmhaiGreatDoor
namespace Go.Proofs.YtajfgmlockjmhaiGreatDoor

theorem go_stopped {p : PD} {d : LgD} (hs : d.stop = true) (n : Int) (sz : Nat) : goEnd p d n = 6 ∧ goL p d n sz = d := by
  have he : goE p d n = 6 := by
    unfold goE
    rw [if_pos hs]
  refine ⟨?_, ?_⟩
  · unfold goEnd
    rw [he, if_neg (by decide)]
  · unfold goL
    rw [he, if_neg (by decide)]
theorem go_out {p : PD} {d : LgD} (hs : d.stop = false) {n : Int} (hn : n < 0 ∨ 100 < n) (sz : Nat) : goEnd p d n = 1 ∧ goL p d n sz = d := by
  have he : goE p d n = 1 := by
    unfold goE
    rw [if_neg (by rw [hs]; decide), if_pos hn]
  refine ⟨?_, ?_⟩
  · unfold goEnd
    rw [he, if_neg (by decide)]
  · unfold goL
    rw [he, if_neg (by decide)]
theorem goE_in {p : PD} {d : LgD} (hs : d.stop = false) {n : Int} (h0 : 0 ≤ n) (h1 : n ≤ 100) (ht : (d.k p).time + n ≤ 2000) : goE p d n = 0 := by
  unfold goE
  rw [if_neg (by rw [hs]; decide), if_neg (by omega), if_neg (by omega)]
/-- So many ticks are done. -/
theorem go_done {p : PD} {d : LgD} (hs : d.stop = false) (hf : d.fail ≠ 0) {n : Int} (h0 : 0 ≤ n) (h1 : n ≤ 100) (ht : (d.k p).time + n ≤ 2000) (sz : Nat) : goEnd p d n = 0 ∧ goL p d n sz = ⟨d.recs ++ [(.go n.toNat, sz)], d.part, d.safe, d.stop, d.less⟩ ∧ ((goL p d n sz).k p).time = (d.k p).time + n := by
  have he := goE_in hs h0 h1 ht
  have hl : d.last = false := by
    unfold LgD.last
    exact decide_eq_false hf
  have hg : goL p d n sz = ⟨d.recs ++ [(.go n.toNat, sz)], d.part, d.safe, d.stop, d.less⟩ := by
    unfold goL putR
    rw [he, if_pos rfl, hl, if_neg (by decide)]
  refine ⟨?_, hg, ?_⟩
  · unfold goEnd
    rw [he, if_pos rfl, hl, if_neg (by decide)]
  · rw [hg]
    show (redoK p ((d.recs ++ [(LStp.go n.toNat, sz)]).map (·.1))).time = _
    rw [List.map_append, List.map_singleton, redoK_append]
    show (ticksK p n.toNat (d.k p)).time = _
    rw [ticksK_time]
    omega
/-- It stops there. -/
theorem go_stops {p : PD} {d : LgD} (hs : d.stop = false) (hf : d.fail = 0) {n : Int} (h0 : 0 ≤ n) (h1 : n ≤ 100) (ht : (d.k p).time + n ≤ 2000) (sz : Nat) : goEnd p d n = 6 ∧ goL p d n sz = ⟨d.recs, d.part + sz / 2, d.safe, true, d.fail⟩ := by
  have he := goE_in hs h0 h1 ht
  have hl : d.last = true := by
    unfold LgD.last
    exact decide_eq_true hf
  refine ⟨?_, ?_⟩
  · unfold goEnd
    rw [he, if_pos rfl, hl, if_pos rfl]
  · unfold goL putR
    rw [he, if_pos rfl, hl, if_pos rfl]
theorem sync_done {d : LgD} (hs : d.stop = false) (hf : d.fail ≠ 0) : syncE d = 0 ∧ syncL d = ⟨d.recs, d.part, d.bytes, d.stop, d.less⟩ := by
  have hl : d.last = false := by
    unfold LgD.last
    exact decide_eq_false hf
  refine ⟨?_, ?_⟩
  · unfold syncE
    rw [if_neg (by rw [hs, hl]; decide)]
  · unfold syncL
    rw [if_neg (by rw [hs]; decide), hl, if_neg (by decide)]
theorem sync_stops {d : LgD} (hs : d.stop = false) (hf : d.fail = 0) : syncE d = 6 ∧ syncL d = ⟨d.recs, d.part, d.safe, true, d.fail⟩ := by
  have hl : d.last = true := by
    unfold LgD.last
    exact decide_eq_true hf
  refine ⟨?_, ?_⟩
  · unfold syncE
    rw [if_pos (Or.inr hl)]
  · unfold syncL
    rw [if_neg (by rw [hs]; decide), hl, if_pos rfl]
theorem sync_stopped {d : LgD} (hs : d.stop = true) : syncE d = 6 ∧ syncL d = d := by
  refine ⟨?_, ?_⟩
  · unfold syncE
    rw [if_pos (Or.inl hs)]
  · unfold syncL
    rw [if_pos hs]
theorem poke_stopped {p : PD} {d : LgD} (hs : d.stop = true) (r c n : Int) (sz : Nat) : lpEnd p d r c n = 6 ∧ lpL p d r c n sz = d := by
  have he : lpE p d r c n = 6 := by
    unfold lpE
    rw [if_pos hs]
  refine ⟨?_, ?_⟩
  · unfold lpEnd
    rw [he, if_neg (by decide)]
  · unfold lpL
    rw [he, if_neg (by decide)]
theorem crash_time {p : PD} {d : LgD} (n : Int) : ((crashL d n).k p).time ≤ (d.k p).time := by
  obtain ⟨m, hm⟩ := wholeR_pre (d.high n) d.recs
  show (redoK p ((wholeR (d.high n) d.recs).map (·.1))).time ≤ _
  rw [hm, List.map_take]
  exact redo_time p _ m
/-- Behind so many steps of a log that is to stop behind 'a' ones. -/
structure Stps (p : PD) (a s : Int) (d : LgD) : Prop where
  ok : LOk p d
  tm : (d.k p).time ≤ 15
  len : (d.recs.length : Int) ≤ (d.k p).time
  ab : a ≤ 15
  on : s ≤ a → d.stop = false ∧ d.fail = a - s
  off : a < s → d.stop = true
end Go.Proofs.YtajfgmlockjmhaiGreatDoor
namespace Go.Proofs.YtajfgmlockjmhaiGreatDoor

/-- How many bytes there were behind each record, and ahead of the first. -/
def marksR (l : List (LStp × Nat)) : List Int := (List.range (l.length + 1)).map fun i => (sizeR (l.take i) : Int)
theorem marksR_len (l : List (LStp × Nat)) : (marksR l).length = l.length + 1 := by simp [marksR]
theorem marksR_at {l : List (LStp × Nat)} {i : Nat} (h : i ≤ l.length) : (marksR l)[i]? = some (sizeR (l.take i) : Int) := by
  unfold marksR
  rw [List.getElem?_map, List.getElem?_range (by omega)]
  rfl
theorem marksR_snoc (l : List (LStp × Nat)) (r : LStp × Nat) : marksR (l ++ [r]) = marksR l ++ [((sizeR l + r.2 : Nat) : Int)] := by
  unfold marksR
  rw [List.length_append, List.length_singleton, List.range_succ, List.map_append, List.map_singleton]
  congr 1
  · apply List.map_congr_left
    intro i hi
    rw [List.mem_range] at hi
    rw [List.take_append_of_le_length (by omega)]
  · rw [List.take_of_length_le (by simp), sizeR_append]
    simp [sizeR]
theorem marksR_take {l : List (LStp × Nat)} {n : Nat} (h : n ≤ l.length) : (marksR l).take (n + 1) = marksR (l.take n) := by
  apply List.ext_getElem?
  intro i
  by_cases hi : i < n + 1
  · rw [List.getElem?_take_of_lt hi, marksR_at (by omega), marksR_at (by rw [List.length_take]; omega), List.take_take, Nat.min_eq_left (by omega)]
  · rw [List.getElem?_eq_none (by rw [List.length_take]; omega), List.getElem?_eq_none (by rw [marksR_len, List.length_take]; omega)]
theorem sizeR_mono (l : List (LStp × Nat)) {i j : Nat} (h : i ≤ j) : sizeR (l.take i) ≤ sizeR (l.take j) := by
  have e : l.take j = l.take i ++ (l.take j).drop i := by
    have h1 := List.take_append_drop i (l.take j)
    rw [List.take_take, Nat.min_eq_left h] at h1
    exact h1.symm
  rw [e, sizeR_append]
  omega
/-- The records that are whole: so many. -/
def wholeN (m : Nat) (l : List (LStp × Nat)) : Nat := (wholeR m l).length
theorem wholeR_take : ∀ (m : Nat) (l : List (LStp × Nat)), wholeR m l = l.take (wholeN m l)
  | m, [] => by simp [wholeR, wholeN]
  | m, r :: l => by
    unfold wholeN
    by_cases h : r.2 ≤ m
    · have e : wholeR m (r :: l) = r :: wholeR (m - r.2) l := by rw [wholeR, if_pos h]
      rw [e, List.length_cons, List.take_succ_cons]
      congr 1
      exact wholeR_take (m - r.2) l
    · have e : wholeR m (r :: l) = [] := by rw [wholeR, if_neg h]
      rw [e]
      rfl
theorem wholeN_le (m : Nat) (l : List (LStp × Nat)) : wholeN m l ≤ l.length := by
  have := congrArg List.length (wholeR_take m l)
  rw [List.length_take] at this
  unfold wholeN at *
  omega
theorem wholeN_next : ∀ (m : Nat) (l : List (LStp × Nat)), wholeN m l < l.length → m < sizeR (l.take (wholeN m l + 1))
  | m, [], h => by simp at h
  | m, r :: l, h => by
    by_cases hr : r.2 ≤ m
    · have e : wholeN m (r :: l) = wholeN (m - r.2) l + 1 := by
        unfold wholeN
        rw [wholeR, if_pos hr]
        rfl
      rw [e] at h ⊢
      have := wholeN_next (m - r.2) l (by simpa using h)
      rw [List.take_succ_cons]
      simp only [sizeR]
      omega
    · have e : wholeN m (r :: l) = 0 := by
        unfold wholeN
        rw [wholeR, if_neg hr]
        rfl
      rw [e]
      simp [sizeR]
      omega
/-- A mark is within so many bytes just if its records are whole. -/
theorem mark_iff {m : Nat} {l : List (LStp × Nat)} {i : Nat} (h : i ≤ l.length) : sizeR (l.take i) ≤ m ↔ i ≤ wholeN m l := by
  constructor
  · intro hm
    by_cases hi : i ≤ wholeN m l
    · exact hi
    · have h1 := wholeN_next m l (by omega)
      have h2 := sizeR_mono l (i := wholeN m l + 1) (j := i) (by omega)
      omega
  · intro hi
    have h1 := sizeR_mono l hi
    have h2 := wholeR_le m l
    rw [wholeR_take] at h2
    omega
/-- The last mark that is within, of those so far. -/
def leftJ (n j : Nat) : Nat := min (j - 1) n
theorem leftJ_zero (n : Nat) : leftJ n 0 = 0 := by simp [leftJ]
theorem leftJ_yes {n j : Nat} (h : j ≤ n) : leftJ n (j + 1) = j := by
  unfold leftJ
  omega
theorem leftJ_no {n j : Nat} (h : n < j) : leftJ n (j + 1) = leftJ n j := by
  unfold leftJ
  omega
theorem leftJ_end {n k : Nat} (h : n ≤ k) : leftJ n (k + 1) = n := by
  unfold leftJ
  omega
theorem bytes_safe {p : PD} {d : LgD} (h : LOk p d) : d.safe ≤ d.bytes := by
  have := h.safe
  unfold LgD.bytes
  omega
/-- What the law reckons. -/
theorem high_is {p : PD} {d : LgD} (h : LOk p d) (keep : Int) : (d.high keep : Int) = if 0 < keep ∧ keep < (d.bytes : Int) - (d.safe : Int) then (d.safe : Int) + keep else if 0 < keep then (d.bytes : Int) else (d.safe : Int) := by
  have hs := bytes_safe h
  unfold LgD.high
  split
  · omega
  · split <;> omega
theorem crash_recs (d : LgD) (keep : Int) : (crashL d keep).recs = d.recs.take (wholeN (d.high keep) d.recs) := wholeR_take _ _
theorem crash_bytes (d : LgD) (keep : Int) : (crashL d keep).bytes = sizeR (d.recs.take (wholeN (d.high keep) d.recs)) ∧ (crashL d keep).safe = sizeR (d.recs.take (wholeN (d.high keep) d.recs)) := by
  unfold LgD.bytes
  rw [crash_recs]
  refine ⟨rfl, ?_⟩
  rw [← wholeR_take]
  rfl
end Go.Proofs.YtajfgmlockjmhaiGreatDoor
namespace Go.Proofs.YtajfgmlockjmhaiGreatDoor

def tkA (n s : Nat) : LgD := ⟨[(.go n, s)], 0, 0, false, -1⟩
def tkS (n s : Nat) : LgD := ⟨[(.go n, s)], 0, s, false, -1⟩
def tkB (sy : Bool) (n s m s2 : Nat) : LgD := ⟨[(.go n, s), (.go m, s2)], 0, if sy = true then s else 0, false, -1⟩
def tkD (n s m s3 : Nat) : LgD := ⟨[(.go n, s), (.go m, s3)], 0, s, false, -1⟩
theorem ticksK_add (p : PD) (k : KD) (n : Nat) : ∀ m, ticksK p m (ticksK p n k) = ticksK p (n + m) k
  | 0 => rfl
  | m + 1 => by
    show (tickK p p.spans (ticksK p m (ticksK p n k))).1 = (tickK p p.spans (ticksK p (n + m) k)).1
    rw [ticksK_add p k n m]
theorem tkA_k (p : PD) (n s : Nat) : (tkA n s).k p = ticksK p n (newK p) := rfl
theorem tkS_k (p : PD) (n s : Nat) : (tkS n s).k p = ticksK p n (newK p) := rfl
theorem tkD_k (p : PD) (n s m s3 : Nat) : (tkD n s m s3).k p = ticksK p (n + m) (newK p) := ticksK_add p (newK p) n m
theorem newK_time (p : PD) : (newK p).time = 0 := rfl
theorem tk_go1 (p : PD) {n : Nat} (hn : n ≤ 60) (s : Nat) : goEnd p newL n = 0 ∧ goL p newL n s = tkA n s := by
  obtain ⟨h1, h2, _⟩ := go_done (p := p) (d := newL) rfl (by decide) (n := (n : Int)) (by omega) (by omega) (by show (newK p).time + (n : Int) ≤ 2000; rw [newK_time]; omega) s
  exact ⟨h1, by rw [h2]; rfl⟩
theorem tk_sync (n s : Nat) : syncE (tkA n s) = 0 ∧ syncL (tkA n s) = tkS n s := by
  obtain ⟨h1, h2⟩ := sync_done (d := tkA n s) rfl (by show (-1 : Int) ≠ 0; decide)
  refine ⟨h1, ?_⟩
  rw [h2]
  show (⟨[(.go n, s)], 0, s + 0 + 0, false, -1⟩ : LgD) = tkS n s
  rfl
theorem tk_go2 (p : PD) {n m : Nat} (hn : n ≤ 60) (hm : m ≤ 60) (sy : Bool) (s s2 : Nat) : goEnd p (if sy = true then tkS n s else tkA n s) m = 0 ∧ goL p (if sy = true then tkS n s else tkA n s) m s2 = tkB sy n s m s2 := by
  have ht : (ticksK p n (newK p)).time + (m : Int) ≤ 2000 := by
    rw [ticksK_time, newK_time]
    omega
  cases sy with
  | true =>
    obtain ⟨h1, h2, _⟩ := go_done (p := p) (d := tkS n s) rfl (by show (-1 : Int) ≠ 0; decide) (n := (m : Int)) (by omega) (by omega) ht s2
    exact ⟨h1, h2⟩
  | false =>
    obtain ⟨h1, h2, _⟩ := go_done (p := p) (d := tkA n s) rfl (by show (-1 : Int) ≠ 0; decide) (n := (m : Int)) (by omega) (by omega) ht s2
    exact ⟨h1, h2⟩
theorem tk_crash {sy : Bool} {n s m s2 : Nat} (hs : 2 ≤ s) (hs2 : 2 ≤ s2) : crashL (tkB sy n s m s2) 0 = if sy = true then tkS n s else newL := by
  cases sy with
  | true =>
    have hh : (tkB true n s m s2).high 0 = s := by
      unfold LgD.high LgD.bytes tkB
      simp [sizeR]
    have hw : wholeR s [(LStp.go n, s), (LStp.go m, s2)] = [(LStp.go n, s)] := by
      rw [wholeR, if_pos (Nat.le_refl _), Nat.sub_self, wholeR, if_neg (by show ¬ s2 ≤ 0; omega)]
    unfold crashL
    rw [hh]
    show (⟨wholeR s [(LStp.go n, s), (LStp.go m, s2)], 0, sizeR (wholeR s [(LStp.go n, s), (LStp.go m, s2)]), false, -1⟩ : LgD) = _
    rw [hw]
    rfl
  | false =>
    have hh : (tkB false n s m s2).high 0 = 0 := by
      unfold LgD.high LgD.bytes tkB
      simp [sizeR]
    have hw : wholeR 0 [(LStp.go n, s), (LStp.go m, s2)] = [] := by
      rw [wholeR, if_neg (by show ¬ s ≤ 0; omega)]
    unfold crashL
    rw [hh]
    show (⟨wholeR 0 [(LStp.go n, s), (LStp.go m, s2)], 0, sizeR (wholeR 0 [(LStp.go n, s), (LStp.go m, s2)]), false, -1⟩ : LgD) = _
    rw [hw]
    rfl
theorem tk_go3 (p : PD) {n m : Nat} (hn : n ≤ 60) (hm : m ≤ 60) (s s3 : Nat) : goEnd p (tkS n s) m = 0 ∧ goL p (tkS n s) m s3 = tkD n s m s3 := by
  have := tk_go2 p hn hm true s s3
  exact this
end Go.Proofs.YtajfgmlockjmhaiGreatDoor
namespace Go.Proofs.YtajfgmlockjmhaiGreatDoor
open Go Go.RowKit

/-- What abides the iterator's own steps: new blocks, draws, writes to block Bi alone. -/
def Free {β : Type} (Bi : Nat) (J : β → World → Prop) : Prop := ∀ s W W', J s W → W.grownBy W' (some Bi) → J s W'
/-- What abides these, and the turns of the loop's own blocks, which are no cells and lie from B on. -/
def Steady {β : Type} (B Bi : Nat) (I : β → World → Prop) : Prop :=
  ∀ s W W' row, I s W → W.grownBy W' row → (∀ r, row = some r → r = Bi ∨ (B ≤ r ∧ ∃ o : Obj, W.heap[r]? = some o ∧ o.isCells = false)) → I s W'
theorem Steady.own {β : Type} {B Bi : Nat} {I : β → World → Prop} (h : Steady B Bi I) : OwnFrom B I := fun s W W' row hs hg hr => h s W W' row hs hg (fun r e => Or.inr (hr r e))
theorem Steady.free {β : Type} {B Bi : Nat} {I : β → World → Prop} (h : Steady B Bi I) : Free Bi I := fun s W W' hs hg => h s W W' (some Bi) hs hg (fun r e => Or.inl (by cases e; rfl))
theorem Steady.and {β : Type} {B Bi : Nat} {I I' : β → World → Prop} (h : Steady B Bi I) (h' : Steady B Bi I') : Steady B Bi (fun s W => I s W ∧ I' s W) := fun s W W' row hs hg hr => ⟨h s W W' row hs.1 hg hr, h' s W W' row hs.2 hg hr⟩
theorem steady_pure {β : Type} (B Bi : Nat) (p : β → Prop) : Steady B Bi (fun s (_ : World) => p s) := fun _ _ _ _ hs _ _ => hs
theorem steady_below {β : Type} {B Bi n₀ : Nat} {w₀ : World} (hB : n₀ ≤ B) (hi : n₀ ≤ Bi) : Steady B Bi (fun (_ : β) W => Below n₀ w₀ W ∧ n₀ ≤ W.heap.size) := fun _ W W' row hs hg hr =>
  ⟨hs.1.grown hg hs.2 (fun r e => by rcases hr r e with h | h; omega; exact Nat.le_trans hB h.1), Nat.le_trans hs.2 hg.size⟩

/-- How the body of a round may be left: it goes on, or it returns. -/
def statePost {α : Type} (B Bi m : Nat) (I Ix : List α → World → Prop) (xs : List α) (W : World) : Exit → Act → World → Prop
  | .normal, _, W' => KeepsFrom B W W' ∧ (∀ k, Bi ≤ k → k < Bi + m → W'.heap[k]? = W.heap[k]?) ∧ I xs W'
  | .ret, _, W' => KeepsFrom B W W' ∧ Ix xs W'
  | _, _, _ => False

/-- An iterator that gives xs, its state in block Bi; it reads the m blocks from Bi on. -/
def Gives {α : Type} (F : Fence) (n : Nat) (P : Program) (g : Nat) (lb : Array Value) (enc : α → Value) (Bi m : Nat) (S Sp : List α → Prop) (N : Nat) (w : World) : Prop :=
  ∀ (l : Nat) (J Jx : List α → World → Prop) (W : World), Below w.heap.size w W → Free Bi J → Free Bi Jx →
    (∀ pre x W1, J pre W1 → pre.length < N → YieldAt F (n - 1) P l #[enc x] W1 fun e W' =>
      (e = .returned (.bool true) ∧ J (pre ++ [x]) W' ∧ ∀ k, Bi ≤ k → k < Bi + m → W'.heap[k]? = W1.heap[k]?) ∨ (e = .returned (.bool false) ∧ Jx (pre ++ [x]) W')) →
    J [] W → CallsIn F n P g (#[.func (.yield l) #[] #[]] ++ lb) W fun e W' => (∃ v, e = .returned v) ∧ ((∃ xs, S xs ∧ J xs W') ∨ (∃ pre, Sp pre ∧ Jx pre W'))

variable {F : Fence} {n : Nat} {P : Program}

theorem wpIn_rangeState {α : Type} {g : Operand} {p : Tmp} (q : Tmp) {assign body : Code} {Q : Exit → Act → World → Prop} {a : Act} {w : World}
    (hro : F.round = none) (h1 : 1 ≤ n) {gf : Nat} {lb : Array Value} (hg : a.eval g = .func (.func gf) #[] lb) (hFg : F.fn gf) (eg : ∀ args w, (callFunc gf args).run P w = .ok (.enter gf args) w)
    {enc : α → Value} {Bi m : Nat} {S Sp : List α → Prop} {N : Nat} (hseq : Gives F (n - 1) P gf lb enc Bi m S Sp N w) (hBi : Bi + m ≤ w.heap.size) (hm : 1 ≤ m)
    (I Ix : List α → World → Prop) (hI : Steady w.heap.size Bi I) (hIx : Steady w.heap.size Bi Ix) (h0 : I [] w)
    (hassign : ∀ (l : Nat) (x : α) (W : World) (K : Act → World → Prop), K { tmps := (a.tmps.setIfInBounds p (enc x)).setIfInBounds q (enc x), defers := [] } W → assign.wpIn (F.inRound l) (n - 1 - 1) P (Exit.then K (fun _ _ _ => False)) { tmps := ((#[p] : Array Tmp).zip #[enc x]).foldl (fun t (p, v) => t.setIfInBounds p v) a.tmps, defers := [] } W)
    (hbody : ∀ (l : Nat) (pre : List α) (x : α) (W : World), I pre W → pre.length < N → body.wpIn (F.inRound l) (n - 1 - 1) P (statePost w.heap.size Bi m I Ix (pre ++ [x]) W) { tmps := (a.tmps.setIfInBounds p (enc x)).setIfInBounds q (enc x), defers := [] } W)
    (hdone : ∀ (D : Nat) (xs : List α) (W : World), w.heap.size ≤ D → S xs → I xs W → W.heap[D]? = some (.deferred (some [])) → Q .normal { a with defers := { target := .collected D, args := #[] } :: a.defers } W)
    (hstop : ∀ (D : Nat) (pre : List α) (W : World), w.heap.size ≤ D → Sp pre → Ix pre W → W.heap[D]? = some (.deferred (some [])) → Code.ret.wpIn F n P Q { a with defers := { target := .collected D, args := #[] } :: a.defers } W) :
    (Code.rangeFunc g #[p] assign body).wpIn F n P Q a w := by
  refine wpIn_rangeFunc fun fn hfn => ?_
  rw [hro]
  obtain ⟨rec, hrec⟩ : ∃ rec : LoopState → Option Code → Loop, rec = fun st pe => { state := st, pending := pe, fn, tmps := a.tmps, params := #[p], assign, body, defers := w.heap.size } := ⟨_, rfl⟩
  obtain ⟨W1, hW1⟩ : ∃ W1, (w.alloc (.deferred (some []))).alloc (.loop (rec .ready none)) = W1 := ⟨_, rfl⟩
  have hL1 : W1.heap[w.heap.size + 1]? = some (.loop (rec .ready none)) := by
    rw [← hW1]; have := World.alloc_heap_new (w.alloc (.deferred (some []))) (.loop (rec .ready none)); rwa [World.size_alloc] at this
  have hK1 : W1.heap[w.heap.size]? = some (.deferred (some [])) := by
    rw [← hW1]; exact (Below.heap_alloc _ _ _ (by simp)).trans (World.alloc_heap_new w _)
  have hI1 : I [] W1 := by rw [← hW1]; exact hI.own.alloc _ (hI.own.alloc _ h0)
  have hb1 : Below w.heap.size w W1 := by rw [← hW1]; exact ((Below.refl _ w).alloc (Nat.le_refl _) _).alloc (by simp) _
  refine ⟨w.heap.size + 1, [{ target := .collected w.heap.size, args := #[] }], W1, { target := .fn (.func gf) lb, args := #[.func (.yield (w.heap.size + 1)) #[] #[]] }, W1, gf,
    #[.func (.yield (w.heap.size + 1)) #[] #[]] ++ lb, W1, ?_, ?_, ?_, ?_, fun _ => h1, ?_⟩
  · rw [← hW1, hrec]; exact run_enterLoop_outer _ _ _ _ _
  · simp only [resolve, hg]
    simp [go_sem]
  · intro f' hf'; simp [Target.leads] at hf'; subst hf'; exact hFg
  · simp [invoke, go_sem, eg]
  · have blk : ∀ {A B : World} (j : Nat) {o : Obj}, w.heap.size ≤ j → A.grownBy B (some Bi) → A.heap[j]? = some o → B.heap[j]? = some o := fun j _ hj hg' h =>
      (hg'.block j (Array.getElem?_eq_some_iff.1 h).1 (fun e => by simp at e; omega)).trans h
    refine (hseq (w.heap.size + 1)
      (fun pre W => I pre W ∧ W.heap[w.heap.size + 1]? = some (.loop (rec .ready none)) ∧ W.heap[w.heap.size]? = some (.deferred (some [])))
      (fun pre W => Ix pre W ∧ W.heap[w.heap.size + 1]? = some (.loop (rec .done (some .ret))) ∧ W.heap[w.heap.size]? = some (.deferred (some [])))
      W1 hb1
      (fun s A B hs hg' => ⟨hI.free s A B hs.1 hg', blk _ (by omega) hg' hs.2.1, blk _ (Nat.le_refl _) hg' hs.2.2⟩)
      (fun s A B hs hg' => ⟨hIx.free s A B hs.1 hg', blk _ (by omega) hg' hs.2.1, blk _ (Nat.le_refl _) hg' hs.2.2⟩)
      ?_ ⟨hI1, hL1, hK1⟩).mono ?_
    · rintro pre x W ⟨hi, hl, hk⟩ hlen
      have hlt : w.heap.size + 1 < W.heap.size := (Array.getElem?_eq_some_iff.1 hl).1
      have hy := run_yield (P := P) (args := #[enc x]) hl (by rw [hrec]; rfl)
      rw [hrec] at hy
      refine ⟨fn, _, assign, body, hy, roundIn_of_wpIn hfn (hassign _ x W _ ?_)⟩
      clear hy
      refine ⟨_, run_beginRound hl (by rw [hrec]), ?_⟩
      have hl2 : (W.putObj (w.heap.size + 1) (.loop { rec .ready none with state := .busy })).heap[w.heap.size + 1]? = some (.loop { rec .ready none with state := .busy }) := World.putObj_heap_same hlt
      have hk2 : (W.putObj (w.heap.size + 1) (.loop { rec .ready none with state := .busy })).heap[w.heap.size]? = some (.deferred (some [])) := (World.putObj_heap_other (by omega)).trans hk
      refine wpIn_mono (hbody _ pre x _ (hI.own.putObj _ hi (by omega) hl rfl) hlen) ?_
      have fin : ∀ (jump : Option Code) (W3 : World), KeepsFrom w.heap.size (W.putObj (w.heap.size + 1) (.loop { rec .ready none with state := .busy })) W3 →
          (Instr.endRound (w.heap.size + 1) jump).run P W3 = .ok (.bool jump.isNone) (W3.putObj (w.heap.size + 1) (.loop (rec (if jump.isNone then .ready else .done) jump))) ∧
          W3.heap[w.heap.size + 1]? = some (.loop { rec .ready none with state := .busy }) ∧
          (W3.putObj (w.heap.size + 1) (.loop (rec (if jump.isNone then .ready else .done) jump))).heap[w.heap.size + 1]? = some (.loop (rec (if jump.isNone then .ready else .done) jump)) ∧
          (W3.putObj (w.heap.size + 1) (.loop (rec (if jump.isNone then .ready else .done) jump))).heap[w.heap.size]? = some (.deferred (some [])) := fun jump W3 hk3 => by
        have hl3 := hk3.same _ _ (by omega) hl2 rfl
        have := run_endRound (P := P) jump hl3
        rw [hrec] at this ⊢
        exact ⟨this, by rw [hrec] at hl3; exact hl3, World.putObj_heap_same (Array.getElem?_eq_some_iff.1 hl3).1, (World.putObj_heap_other (by omega)).trans (hk3.same _ _ (Nat.le_refl _) hk2 rfl)⟩
      rintro e a3 W3 hp
      cases e with
      | normal =>
        obtain ⟨hk3, hs3, hi3⟩ := hp
        obtain ⟨hr, hl3, hl4, hk4⟩ := fin none W3 hk3
        exact ⟨_, _, hr, .inl ⟨rfl, ⟨hI.own.putObj _ hi3 (by omega) hl3 rfl, hl4, hk4⟩, fun k hk0 hk1 => (World.putObj_heap_other (by omega)).trans ((hs3 k hk0 hk1).trans (World.putObj_heap_other (by omega)))⟩⟩
      | ret =>
        obtain ⟨hk3, hi3⟩ := hp
        obtain ⟨hr, hl3, hl4, hk4⟩ := fin (some .ret) W3 hk3
        exact ⟨_, _, hr, .inr ⟨rfl, hIx.own.putObj _ hi3 (by omega) hl3 rfl, hl4, hk4⟩⟩
      | exit id => exact hp.elim
      | goto t => exact hp.elim
      | panic ch => exact hp.elim
      | outgrown => exact hp.elim
    · rintro e W2 ⟨⟨v, rfl⟩, (⟨xs, hS, hi, hl, hk⟩ | ⟨pre, hSp, hi, hl, hk⟩)⟩
      · exact ⟨none, _, by have := run_endLoop (P := P) hl (by rw [hrec]; simp); rw [hrec] at this; exact this, hdone _ xs _ (Nat.le_refl _) hS (hI.own.putObj _ hi (by omega) hl rfl) ((World.putObj_heap_other (by omega)).trans hk)⟩
      · exact ⟨some .ret, _, by have := run_endLoop (P := P) hl (by rw [hrec]; simp); rw [hrec] at this; exact this, hstop _ pre _ (Nat.le_refl _) hSp (hIx.own.putObj _ hi (by omega) hl rfl) ((World.putObj_heap_other (by omega)).trans hk)⟩

theorem keepsFrom_below {B : Nat} {W W' : World} (hb : Below W.heap.size W W') : KeepsFrom B W W' := ⟨hb.size, fun k _ _ hk _ => (hb.block k (Array.getElem?_eq_some_iff.1 hk).1).trans hk⟩
theorem steady_boxed {β : Type} {B Bi : Nat} (b : Nat) (t : TypeId) (f : β → Value) (hne : b ≠ Bi) : Steady B Bi (fun s W => Boxed W b t (f s)) := fun s W W' row hs hg hr =>
  hs.kept hg (fun e => by
    rcases hr b e.symm with h | ⟨_, _, ho, hc⟩
    · exact hne h
    · rw [show W.heap[b]? = _ from hs] at ho; cases ho; cases hc)
theorem own_steady {W W' : World} {row : Option Nat} {B Bi base : Nat} {e : TypeId} {size : Nat} {v : Value} {n : Nat} {xs : List Value} (h : W.ownsRow base e size v n xs) (hg : W.grownBy W' row)
    (hr : ∀ r, row = some r → r = Bi ∨ (B ≤ r ∧ ∃ o : Obj, W.heap[r]? = some o ∧ o.isCells = false)) (hb : Bi < base) : W'.ownsRow base e size v n xs := by
  rcases hrow : row with _ | r
  · exact h.kept hg (by rw [hrow]; cases v.ownBlock <;> simp)
  · refine h.kept hg (Or.inr fun e' => ?_)
    rw [hrow] at e'
    rcases hr r hrow with hB | ⟨_, _, ho, hc⟩
    · have := (h.lt r e').1
      omega
    · rcases h.2 with ⟨hv, _⟩ | ⟨g, cap, cur, hv, _, hgc, _⟩
      · rw [hv] at e'; cases e'
      · rw [hv] at e'
        simp only [Value.ownBlock, Option.some.injEq] at e'
        rw [e'] at hgc
        rw [hgc] at ho
        cases ho; cases hc

/-- A round that calls, then appends to a slice of its own, which lies in a box C ahead of the rows: what it leaves. -/
theorem app_step {W W2 w1 : World} {C base size : Nat} {t e : TypeId} {tmp : Obj} {vv v' : Value} {n m : Nat} {xs ys : List Value} (b2 : Below W.heap.size W W2) (hC : C < base) (hb : base ≤ W.heap.size) (hbv : Boxed W2 C t vv) (hte : t ≠ e)
    (hown2 : W2.ownsRow base e size vv n xs) (hown' : w1.ownsRow base e size v' m ys) (hgrow : (W2.alloc tmp).grownBy w1 vv.ownBlock) :
    KeepsOthers W (w1.setCell ⟨C, 0, none⟩ v') ∧ (∀ k, k < base → k ≠ C → (w1.setCell ⟨C, 0, none⟩ v').heap[k]? = W.heap[k]?) ∧ Boxed (w1.setCell ⟨C, 0, none⟩ v') C t v' ∧ (w1.setCell ⟨C, 0, none⟩ v').ownsRow base e size v' m ys ∧
      Below C W (w1.setCell ⟨C, 0, none⟩ v') ∧ W.heap.size ≤ (w1.setCell ⟨C, 0, none⟩ v').heap.size := by
  have hrow : ∀ j, vv.ownBlock = some j → base ≤ j ∧ ∃ c fz, W2.heap[j]? = some (.cells c e fz) := fun j hj => by
    refine ⟨(hown2.lt j hj).1, ?_⟩
    rcases hown2.2 with ⟨hv, _⟩ | ⟨g, cap, cur, hv, _, hgc, _⟩
    · rw [hv] at hj; cases hj
    · rw [hv] at hj
      simp only [Value.ownBlock, Option.some.injEq] at hj
      exact ⟨_, _, by rw [← hj]; exact hgc⟩
  have hv1 : Boxed w1 C t vv := (hbv.alloc tmp).kept hgrow (hbv.not_row hte hown2)
  have hsz : W.heap.size ≤ w1.heap.size := by have := hgrow.size; have := b2.size; simp at *; omega
  have hsz' : (w1.setCell ⟨C, 0, none⟩ v').heap.size = w1.heap.size := by simp [World.setCell]
  have blk : ∀ k, k < base → k ≠ C → (w1.setCell ⟨C, 0, none⟩ v').heap[k]? = W.heap[k]? := fun k hk hne => by
    rw [Below.heap_setCell _ _ _ _ hne, hgrow.block k (by have := b2.size; simp; omega) (fun e' => by have := (hrow k e'.symm).1; omega), Below.heap_alloc _ _ _ (by have := b2.size; omega), b2.block k (by omega)]
  refine ⟨⟨by rw [hsz']; exact hsz, fun k o hk ho => ?_⟩, blk, hv1.set v', hown'.kept (grownBy_setCell' w1 C v') (Or.inr ((hv1.not_row hte hown').symm)), ?_, by rw [hsz']; exact hsz⟩
  · have h2 : W2.heap[k]? = some o := (b2.block k (Array.getElem?_eq_some_iff.1 hk).1).trans hk
    have hlt := (Array.getElem?_eq_some_iff.1 h2).1
    have hCk : k ≠ C := fun e' => by
      subst e'
      rw [show W2.heap[k]? = _ from hbv] at h2
      cases h2; cases ho
    rw [Below.heap_setCell _ _ _ _ hCk, hgrow.block k (by simp; omega) (fun e' => by
      obtain ⟨_, c, fz, hc⟩ := hrow k e'.symm
      rw [hc] at h2; cases h2; cases ho), Below.heap_alloc _ _ _ hlt, h2]
  · have hg : Below C W2 w1 := ((Below.refl C W2).alloc (by have := b2.size; omega) tmp).grown hgrow (by have := b2.size; simp; omega) (fun j ej => by have := (hrow j ej).1; omega)
    exact ((b2.mono (by omega)).trans hg).setCell (p := ⟨C, 0, none⟩) (Nat.le_refl _) v'
end Go.Proofs.YtajfgmlockjmhaiGreatDoor
namespace Go.Proofs.YtajfgmlockjmhaiGreatDoor
open Go Go.RowKit

/-- What abides the iterator's own steps, and the turns of the loop's own two blocks. -/
def SteadyD {β : Type} (B Bi : Nat) (I : β → World → Prop) : Prop := ∀ s W W' row, I s W → W.grownBy W' row → (∀ r, row = some r → r = Bi ∨ r = B ∨ r = B + 1) → I s W'
theorem SteadyD.free {β : Type} {B Bi : Nat} {I : β → World → Prop} (h : SteadyD B Bi I) : Free Bi I := fun s W W' hs hg => h s W W' (some Bi) hs hg (fun r e => Or.inl (by cases e; rfl))
theorem SteadyD.alloc {β : Type} {B Bi : Nat} {I : β → World → Prop} (h : SteadyD B Bi I) {s : β} {W : World} (o : Obj) (hs : I s W) : I s (W.alloc o) := h s W _ none hs (World.grownBy_alloc W o none) (fun r e => by cases e)
theorem SteadyD.put {β : Type} {B Bi : Nat} {I : β → World → Prop} (h : SteadyD B Bi I) {s : β} {W : World} {l : Nat} (hl : l = B ∨ l = B + 1) (o : Obj) (hs : I s W) : I s (W.putObj l o) := h s W _ (some l) hs (grownBy_putObj' W l o) (fun r e => by cases e; exact Or.inr hl)
/-- How the body of a round may be left: it goes on, or it returns. -/
def heldPost {α : Type} (B Bi m : Nat) (I Ix : List α → World → Prop) (xs : List α) (W : World) : Exit → Act → World → Prop
  | .normal, _, W' => (∀ k, k = B ∨ k = B + 1 ∨ (Bi ≤ k ∧ k < Bi + m) → W'.heap[k]? = W.heap[k]?) ∧ I xs W'
  | .ret, _, W' => (∀ k, k = B ∨ k = B + 1 ∨ (Bi ≤ k ∧ k < Bi + m) → W'.heap[k]? = W.heap[k]?) ∧ Ix xs W'
  | _, _, _ => False

variable {F : Fence} {n : Nat} {P : Program}

theorem wpIn_rangeHeld {α : Type} {g : Operand} {p : Tmp} (q : Tmp) {assign body : Code} {Q : Exit → Act → World → Prop} {a : Act} {w : World}
    (hro : F.round = none) (h1 : 1 ≤ n) {gf : Nat} {lb : Array Value} (hg : a.eval g = .func (.func gf) #[] lb) (hFg : F.fn gf) (eg : ∀ args w, (callFunc gf args).run P w = .ok (.enter gf args) w)
    {enc : α → Value} {Bi m : Nat} {S Sp : List α → Prop} {N : Nat} (hseq : Gives F (n - 1) P gf lb enc Bi m S Sp N w) (hBi : Bi + m ≤ w.heap.size) (hm : 1 ≤ m)
    (I Ix : List α → World → Prop) (hI : SteadyD w.heap.size Bi I) (hIx : SteadyD w.heap.size Bi Ix) (h0 : I [] w)
    (hassign : ∀ (l : Nat) (x : α) (W : World) (K : Act → World → Prop), K { tmps := (a.tmps.setIfInBounds p (enc x)).setIfInBounds q (enc x), defers := [] } W → assign.wpIn (F.inRound l) (n - 1 - 1) P (Exit.then K (fun _ _ _ => False)) { tmps := ((#[p] : Array Tmp).zip #[enc x]).foldl (fun t (p, v) => t.setIfInBounds p v) a.tmps, defers := [] } W)
    (hbody : ∀ (l : Nat) (pre : List α) (x : α) (W : World), I pre W → pre.length < N → w.heap.size + 2 ≤ W.heap.size → body.wpIn (F.inRound l) (n - 1 - 1) P (heldPost w.heap.size Bi m I Ix (pre ++ [x]) W) { tmps := (a.tmps.setIfInBounds p (enc x)).setIfInBounds q (enc x), defers := [] } W)
    (hdone : ∀ (D : Nat) (xs : List α) (W : World), D = w.heap.size → S xs → I xs W → W.heap[D]? = some (.deferred (some [])) → Q .normal { a with defers := { target := .collected D, args := #[] } :: a.defers } W)
    (hstop : ∀ (D : Nat) (pre : List α) (W : World), D = w.heap.size → Sp pre → Ix pre W → W.heap[D]? = some (.deferred (some [])) → Code.ret.wpIn F n P Q { a with defers := { target := .collected D, args := #[] } :: a.defers } W) :
    (Code.rangeFunc g #[p] assign body).wpIn F n P Q a w := by
  refine wpIn_rangeFunc fun fn hfn => ?_
  rw [hro]
  obtain ⟨rec, hrec⟩ : ∃ rec : LoopState → Option Code → Loop, rec = fun st pe => { state := st, pending := pe, fn, tmps := a.tmps, params := #[p], assign, body, defers := w.heap.size } := ⟨_, rfl⟩
  obtain ⟨W1, hW1⟩ : ∃ W1, (w.alloc (.deferred (some []))).alloc (.loop (rec .ready none)) = W1 := ⟨_, rfl⟩
  have hL1 : W1.heap[w.heap.size + 1]? = some (.loop (rec .ready none)) := by
    rw [← hW1]; have := World.alloc_heap_new (w.alloc (.deferred (some []))) (.loop (rec .ready none)); rwa [World.size_alloc] at this
  have hK1 : W1.heap[w.heap.size]? = some (.deferred (some [])) := by
    rw [← hW1]; exact (Below.heap_alloc _ _ _ (by simp)).trans (World.alloc_heap_new w _)
  have hI1 : I [] W1 := by rw [← hW1]; exact hI.alloc _ (hI.alloc _ h0)
  have hb1 : Below w.heap.size w W1 := by rw [← hW1]; exact ((Below.refl _ w).alloc (Nat.le_refl _) _).alloc (by simp) _
  refine ⟨w.heap.size + 1, [{ target := .collected w.heap.size, args := #[] }], W1, { target := .fn (.func gf) lb, args := #[.func (.yield (w.heap.size + 1)) #[] #[]] }, W1, gf,
    #[.func (.yield (w.heap.size + 1)) #[] #[]] ++ lb, W1, ?_, ?_, ?_, ?_, fun _ => h1, ?_⟩
  · rw [← hW1, hrec]; exact run_enterLoop_outer _ _ _ _ _
  · simp only [resolve, hg]
    simp [go_sem]
  · intro f' hf'; simp [Target.leads] at hf'; subst hf'; exact hFg
  · simp [invoke, go_sem, eg]
  · have blk : ∀ {A B : World} (j : Nat) {o : Obj}, w.heap.size ≤ j → A.grownBy B (some Bi) → A.heap[j]? = some o → B.heap[j]? = some o := fun j _ hj hg' h =>
      (hg'.block j (Array.getElem?_eq_some_iff.1 h).1 (fun e => by simp at e; omega)).trans h
    refine (hseq (w.heap.size + 1)
      (fun pre W => I pre W ∧ W.heap[w.heap.size + 1]? = some (.loop (rec .ready none)) ∧ W.heap[w.heap.size]? = some (.deferred (some [])))
      (fun pre W => Ix pre W ∧ W.heap[w.heap.size + 1]? = some (.loop (rec .done (some .ret))) ∧ W.heap[w.heap.size]? = some (.deferred (some [])))
      W1 hb1
      (fun s A B hs hg' => ⟨hI.free s A B hs.1 hg', blk _ (by omega) hg' hs.2.1, blk _ (Nat.le_refl _) hg' hs.2.2⟩)
      (fun s A B hs hg' => ⟨hIx.free s A B hs.1 hg', blk _ (by omega) hg' hs.2.1, blk _ (Nat.le_refl _) hg' hs.2.2⟩)
      ?_ ⟨hI1, hL1, hK1⟩).mono ?_
    · rintro pre x W ⟨hi, hl, hk⟩ hlen
      have hlt : w.heap.size + 1 < W.heap.size := (Array.getElem?_eq_some_iff.1 hl).1
      have hy := run_yield (P := P) (args := #[enc x]) hl (by rw [hrec]; rfl)
      rw [hrec] at hy
      refine ⟨fn, _, assign, body, hy, roundIn_of_wpIn hfn (hassign _ x W _ ?_)⟩
      clear hy
      refine ⟨_, run_beginRound hl (by rw [hrec]), ?_⟩
      have hl2 : (W.putObj (w.heap.size + 1) (.loop { rec .ready none with state := .busy })).heap[w.heap.size + 1]? = some (.loop { rec .ready none with state := .busy }) := World.putObj_heap_same hlt
      have hk2 : (W.putObj (w.heap.size + 1) (.loop { rec .ready none with state := .busy })).heap[w.heap.size]? = some (.deferred (some [])) := (World.putObj_heap_other (by omega)).trans hk
      refine wpIn_mono (hbody _ pre x _ (hI.put (by omega) _ hi) hlen (by rw [World.putObj_size]; omega)) ?_
      have fin : ∀ (jump : Option Code) (W3 : World), (∀ k, k = w.heap.size ∨ k = w.heap.size + 1 ∨ (Bi ≤ k ∧ k < Bi + m) → W3.heap[k]? = (W.putObj (w.heap.size + 1) (.loop { rec .ready none with state := .busy })).heap[k]?) →
          (Instr.endRound (w.heap.size + 1) jump).run P W3 = .ok (.bool jump.isNone) (W3.putObj (w.heap.size + 1) (.loop (rec (if jump.isNone then .ready else .done) jump))) ∧
          W3.heap[w.heap.size + 1]? = some (.loop { rec .ready none with state := .busy }) ∧
          (W3.putObj (w.heap.size + 1) (.loop (rec (if jump.isNone then .ready else .done) jump))).heap[w.heap.size + 1]? = some (.loop (rec (if jump.isNone then .ready else .done) jump)) ∧
          (W3.putObj (w.heap.size + 1) (.loop (rec (if jump.isNone then .ready else .done) jump))).heap[w.heap.size]? = some (.deferred (some [])) := fun jump W3 hk3 => by
        have hl3 := (hk3 _ (Or.inr (Or.inl rfl))).trans hl2
        have := run_endRound (P := P) jump hl3
        rw [hrec] at this ⊢
        exact ⟨this, by rw [hrec] at hl3; exact hl3, World.putObj_heap_same (Array.getElem?_eq_some_iff.1 hl3).1, (World.putObj_heap_other (by omega)).trans ((hk3 _ (Or.inl rfl)).trans hk2)⟩
      rintro e a3 W3 hp
      cases e with
      | normal =>
        obtain ⟨hs3, hi3⟩ := hp
        obtain ⟨hr, hl3, hl4, hk4⟩ := fin none W3 hs3
        exact ⟨_, _, hr, .inl ⟨rfl, ⟨hI.put (by omega) _ hi3, hl4, hk4⟩, fun k hk0 hk1 => (World.putObj_heap_other (by omega)).trans ((hs3 k (Or.inr (Or.inr ⟨hk0, hk1⟩))).trans (World.putObj_heap_other (by omega)))⟩⟩
      | ret =>
        obtain ⟨hk3, hi3⟩ := hp
        obtain ⟨hr, hl3, hl4, hk4⟩ := fin (some .ret) W3 hk3
        exact ⟨_, _, hr, .inr ⟨rfl, hIx.put (by omega) _ hi3, hl4, hk4⟩⟩
      | exit id => exact hp.elim
      | goto t => exact hp.elim
      | panic ch => exact hp.elim
      | outgrown => exact hp.elim
    · rintro e W2 ⟨⟨v, rfl⟩, (⟨xs, hS, hi, hl, hk⟩ | ⟨pre, hSp, hi, hl, hk⟩)⟩
      · exact ⟨none, _, by have := run_endLoop (P := P) hl (by rw [hrec]; simp); rw [hrec] at this; exact this, hdone _ xs _ rfl hS (hI.put (by omega) _ hi) ((World.putObj_heap_other (by omega)).trans hk)⟩
      · exact ⟨some .ret, _, by have := run_endLoop (P := P) hl (by rw [hrec]; simp); rw [hrec] at this; exact this, hstop _ pre _ rfl hSp (hIx.put (by omega) _ hi) ((World.putObj_heap_other (by omega)).trans hk)⟩

end Go.Proofs.YtajfgmlockjmhaiGreatDoor
namespace Go.Proofs.YtajfgmlockjmhaiGreatDoor
open Go.RowKit

theorem below_st8 {B : Nat} {w w' : World} (h : Below B w w') (b : Nat) (hb : B ≤ b) (x0 x1 x2 x3 x4 x5 x6 x7 : Value) : Below B w ((((((((w'.setCell ⟨b, 0, none⟩ x0).setCell ⟨b, 1, none⟩ x1).setCell ⟨b, 2, none⟩ x2).setCell ⟨b, 3, none⟩ x3).setCell ⟨b, 4, none⟩ x4).setCell ⟨b, 5, none⟩ x5).setCell ⟨b, 6, none⟩ x6).setCell ⟨b, 7, none⟩ x7) :=
  (((((((h.setCell (p := ⟨b, 0, none⟩) hb x0).setCell (p := ⟨b, 1, none⟩) hb x1).setCell (p := ⟨b, 2, none⟩) hb x2).setCell (p := ⟨b, 3, none⟩) hb x3).setCell (p := ⟨b, 4, none⟩) hb x4).setCell (p := ⟨b, 5, none⟩) hb x5).setCell (p := ⟨b, 6, none⟩) hb x6).setCell (p := ⟨b, 7, none⟩) hb x7
/-- A state is written into a new block. -/
theorem zst_set {w : World} {b : Nat} (h : w.heap[b]? = some (.cells #[.int .i64 0, .int .i64 0, .int .i64 0, .int .i64 0, .int .i64 0, .int .i64 0, .int .i64 0, .bool false] 73)) (s : St) : ((((((((w.setCell ⟨b, 0, none⟩ (.int .i64 s.p)).setCell ⟨b, 1, none⟩ (.int .i64 (s.c 0))).setCell ⟨b, 2, none⟩ (.int .i64 (s.c 1))).setCell ⟨b, 3, none⟩ (.int .i64 (s.c 2))).setCell ⟨b, 4, none⟩ (.int .i64 (s.c 3))).setCell ⟨b, 5, none⟩ (.int .i64 (s.c 4))).setCell ⟨b, 6, none⟩ (.int .i64 (s.c 5))).setCell ⟨b, 7, none⟩ (.bool s.f)).heap[b]? = some (.cells #[.int .i64 s.p, .int .i64 (s.c 0), .int .i64 (s.c 1), .int .i64 (s.c 2), .int .i64 (s.c 3), .int .i64 (s.c 4), .int .i64 (s.c 5), .bool s.f] 73) := by
  simp [World.setCell, Array.getElem?_modify, h]
theorem touch_st (w : World) (b : Nat) (x0 x1 x2 x3 x4 x5 x6 x7 : Value) : KTouch [b] w ((((((((w.setCell ⟨b, 2, none⟩ x0).setCell ⟨b, 3, none⟩ x1).setCell ⟨b, 4, none⟩ x2).setCell ⟨b, 5, none⟩ x3).setCell ⟨b, 6, none⟩ x4).setCell ⟨b, 7, none⟩ x5).setCell ⟨b, 8, none⟩ x6).setCell ⟨b, 9, none⟩ x7) :=
  have hm : b ∈ [b] := by simp
  (((((((KTouch.set w hm 2 x0).trans (KTouch.set _ hm 3 x1)).trans (KTouch.set _ hm 4 x2)).trans (KTouch.set _ hm 5 x3)).trans (KTouch.set _ hm 6 x4)).trans (KTouch.set _ hm 7 x5)).trans (KTouch.set _ hm 8 x6)).trans (KTouch.set _ hm 9 x7)
end Go.Proofs.YtajfgmlockjmhaiGreatDoor
namespace Go.Proofs.YtajfgmlockjmhaiGreatDoor
open Go.RowKit

theorem ticksK_kT (p : PD) : ∀ n, ticksK p n (newK p) = kT p n
  | 0 => rfl
  | n + 1 => by
    show (tickK p p.spans (ticksK p n (newK p))).1 = (tickK p p.spans (kT p n)).1
    rw [ticksK_kT p n]
structure LK2 {G : World → Prop} (C : LogC G) (Q : KerC G) (w0 wr : World) (p : PD) (vc vs vw : Value) (d : LgD) (cb : Nat) (F : List Nat) (k : KD) (kb : Nat) (F2 : List Nat) : Prop where
  L : C.K w0 wr p d cb F
  K : Q.K w0 wr p vc vs vw k kb F2
  ap : ∀ g ∈ F, g ∉ F2
section
variable {G : World → Prop} {C : LogC G} {Q : KerC G} {w0 wr w' : World} {p : PD} {vc vs vw : Value} {d d' : LgD} {cb : Nat} {F F' : List Nat} {k k' : KD} {kb : Nat} {F2 F3 : List Nat}
theorem LK2.all (h : LK2 C Q w0 wr p vc vs vw d cb F k kb F2) (hb : Below wr.heap.size wr w') : LK2 C Q w0 w' p vc vs vw d cb F k kb F2 :=
  ⟨C.frame h.L (KTouch.of (M := []) hb) (by simp), Q.frame h.K (KTouch.of (M := []) hb) (by simp), h.ap⟩
/-- A call on the log. -/
theorem LK2.log (h : LK2 C Q w0 wr p vc vs vw d cb F k kb F2) (hK : C.K w0 w' p d' cb F') (ht : KTouch F wr w') (hn : ∀ g ∈ F', g ∈ F ∨ wr.heap.size ≤ g) : LK2 C Q w0 w' p vc vs vw d' cb F' k kb F2 :=
  ⟨hK, Q.frame h.K ht (fun m hm => ⟨h.ap m hm, (C.ge h.L m hm).1⟩), fun g hg h2 => by
    rcases hn g hg with e | e
    · exact h.ap g e h2
    · have := (Q.ge h.K g h2).2
      omega⟩
/-- A call on the kernel. -/
theorem LK2.ker (h : LK2 C Q w0 wr p vc vs vw d cb F k kb F2) (hK : Q.K w0 w' p vc vs vw k' kb F3) (ht : KTouch F2 wr w') (hn : ∀ g ∈ F3, g ∈ F2 ∨ wr.heap.size ≤ g) : LK2 C Q w0 w' p vc vs vw d cb F k' kb F3 :=
  ⟨C.frame h.L ht (fun m hm => ⟨fun hf => h.ap m hf hm, (Q.ge h.K m hm).1⟩), hK, fun g hg h3 => by
    rcases hn g h3 with e | e
    · exact h.ap g hg e
    · have := (C.ge h.L g hg).2
      omega⟩
/-- A kernel that was made behind the log. -/
theorem LK2.made {uc us uw : Value} (hL : C.K w0 wr p d cb F) (hK : Q.K wr w' p uc us uw k kb F2) : LK2 C Q w0 w' p uc us uw d cb F k kb F2 :=
  ⟨C.frame hL (KTouch.of (M := []) (Q.since hK)) (by simp), Q.lower (C.since hL) hK, fun g hg h2 => by
    have h1 := (C.ge hL g hg).2
    have h3 := (Q.ge hK g h2).1
    omega⟩
end
/-- A state in a box of the law's own. -/
def Fo (W : World) (b : Nat) (F F2 : List Nat) (s : St) : Prop := StB W b s ∧ b ∉ F ∧ b ∉ F2
theorem Fo.lt {W : World} {b : Nat} {F F2 : List Nat} {s : St} (h : Fo W b F F2 s) : b < W.heap.size := (Array.getElem?_eq_some_iff.1 h.1).1
theorem Fo.all {W W' : World} {b : Nat} {F F2 : List Nat} {s : St} (h : Fo W b F F2 s) (hb : Below W.heap.size W W') : Fo W' b F F2 s := ⟨(hb.block b h.lt).trans h.1, h.2⟩
theorem Fo.log {W W' : World} {b : Nat} {F F' F2 : List Nat} {s : St} (h : Fo W b F F2 s) (ht : KTouch F W W') (hn : ∀ g ∈ F', g ∈ F ∨ W.heap.size ≤ g) : Fo W' b F' F2 s := ⟨(ht.block b h.lt h.2.1).trans h.1, fun hm => by
  rcases hn b hm with e | e
  · exact h.2.1 e
  · have := h.lt
    omega, h.2.2⟩
theorem Fo.ker {W W' : World} {b : Nat} {F F2 F3 : List Nat} {s : St} (h : Fo W b F F2 s) (ht : KTouch F2 W W') (hn : ∀ g ∈ F3, g ∈ F2 ∨ W.heap.size ≤ g) : Fo W' b F F3 s := ⟨(ht.block b h.lt h.2.2).trans h.1, h.2.1, fun hm => by
  rcases hn b hm with e | e
  · exact h.2.2 e
  · have := h.lt
    omega⟩
theorem Fo.fz {W : World} {b : Nat} {F F2 : List Nat} {s : St} (h : Fo W b F F2 s) (o : Nat) : W.frozen? ⟨b, o, none⟩ = false := by
  have e : W.heap[b]? = _ := h.1
  simp [World.frozen?, e]
theorem Fo.set {W : World} {b : Nat} {F F2 : List Nat} {s : St} (h : Fo W b F F2 s) (s' : St) : Fo (setSt W b 0 s') b F F2 s' := ⟨by
  have e : W.heap[b]? = _ := h.1
  unfold StB setSt
  simp [World.setCell, Array.getElem?_modify, e], h.2⟩
theorem Fo.other {W : World} {b c : Nat} {F F2 : List Nat} {s : St} (h : Fo W b F F2 s) (hne : b ≠ c) (s' : St) : Fo (setSt W c 0 s') b F F2 s := ⟨((setSt_touch (M := [c]) W (by simp) 0 s').block b h.lt (by simpa using hne)).trans h.1, h.2⟩
theorem StB.only {W : World} {b o : Nat} {s s' : St} (h : StB W b s) (hc : StC W b o s') : o = 0 := by
  have e : W.heap[b]? = _ := h
  have h7 := hc.f
  cases o with
  | zero => rfl
  | succ n =>
    have hn : ¬ (n + 1 + 7 < 8) := by omega
    simp [World.cell?, e, hn] at h7
/-- The same state written into a box: where it was read it can be read. -/
theorem Fo.put {W : World} {b lb o : Nat} {F F2 : List Nat} {s s' : St} (h : Fo W b F F2 s) (hc : StC W lb o s') (hlt : lb < W.heap.size) : StC (setSt W b 0 s') lb o s' := by
  by_cases hn : lb = b
  · subst hn
    obtain rfl := StB.only h.1 hc
    exact (h.set s').1.cs
  · exact hc.off (fun q _ _ => World.cell?_of_block (w := W) (a := ⟨lb, q, none⟩) ((setSt_touch (M := [b]) W (by simp) 0 s').block lb hlt (by simpa using hn)))
end Go.Proofs.YtajfgmlockjmhaiGreatDoor
namespace Go.Proofs.YtajfgmlockjmhaiGreatDoor
open Go.ChangeShapes

theorem trodAll_four {H : Type} {enc : TypeId × Value → H} {P : Program} {w : World} {base : Nat} {spare : Nat → Bool} {held : Bool} {t0 t1 t2 t3 : TypeId} {args : Array Value} {ds : List (DataW H)} {ps : List MemPlace} (h : DataW.TrodAll enc P w base spare held [t0, t1, t2, t3] args.toList ds ps) :
    ∃ v0 v1 v2 v3 d0 d1 d2 d3 p0 p1 p2 p3, args = #[v0, v1, v2, v3] ∧ ds = [d0, d1, d2, d3] ∧ DataW.Trod enc P w base spare held t0 v0 d0 p0 ∧ DataW.Trod enc P w base spare held t1 v1 d1 p1 ∧ DataW.Trod enc P w base spare held t2 v2 d2 p2 ∧ DataW.Trod enc P w base spare held t3 v3 d3 p3 := by
  obtain ⟨v0, vs0, d0, ds0, p0, q0, hargs, rfl, rfl, h0, r0⟩ := trodAll_cons h
  obtain ⟨v1, vs1, d1, ds1, p1, q1, rfl, rfl, rfl, h1, r1⟩ := trodAll_cons r0
  obtain ⟨v2, vs2, d2, ds2, p2, q2, rfl, rfl, rfl, h2, r2⟩ := trodAll_cons r1
  obtain ⟨v3, vs3, d3, ds3, p3, q3, rfl, rfl, rfl, h3, r3⟩ := trodAll_cons r2
  obtain ⟨rfl, rfl, rfl⟩ := trodAll_nil r3
  exact ⟨v0, v1, v2, v3, d0, d1, d2, d3, p0, p1, p2, p3, by cases args; simp_all, rfl, h0, h1, h2, h3⟩
theorem trodAll_five {H : Type} {enc : TypeId × Value → H} {P : Program} {w : World} {base : Nat} {spare : Nat → Bool} {held : Bool} {t0 t1 t2 t3 t4 : TypeId} {args : Array Value} {ds : List (DataW H)} {ps : List MemPlace} (h : DataW.TrodAll enc P w base spare held [t0, t1, t2, t3, t4] args.toList ds ps) :
    ∃ v0 v1 v2 v3 v4 d0 d1 d2 d3 d4 p0 p1 p2 p3 p4, args = #[v0, v1, v2, v3, v4] ∧ ds = [d0, d1, d2, d3, d4] ∧ DataW.Trod enc P w base spare held t0 v0 d0 p0 ∧ DataW.Trod enc P w base spare held t1 v1 d1 p1 ∧ DataW.Trod enc P w base spare held t2 v2 d2 p2 ∧ DataW.Trod enc P w base spare held t3 v3 d3 p3 ∧ DataW.Trod enc P w base spare held t4 v4 d4 p4 := by
  obtain ⟨v0, vs0, d0, ds0, p0, q0, hargs, rfl, rfl, h0, r0⟩ := trodAll_cons h
  obtain ⟨v1, vs1, d1, ds1, p1, q1, rfl, rfl, rfl, h1, r1⟩ := trodAll_cons r0
  obtain ⟨v2, vs2, d2, ds2, p2, q2, rfl, rfl, rfl, h2, r2⟩ := trodAll_cons r1
  obtain ⟨v3, vs3, d3, ds3, p3, q3, rfl, rfl, rfl, h3, r3⟩ := trodAll_cons r2
  obtain ⟨v4, vs4, d4, ds4, p4, q4, rfl, rfl, rfl, h4, r4⟩ := trodAll_cons r3
  obtain ⟨rfl, rfl, rfl⟩ := trodAll_nil r4
  exact ⟨v0, v1, v2, v3, v4, d0, d1, d2, d3, d4, p0, p1, p2, p3, p4, by cases args; simp_all, rfl, h0, h1, h2, h3, h4⟩
theorem trodAll_six {H : Type} {enc : TypeId × Value → H} {P : Program} {w : World} {base : Nat} {spare : Nat → Bool} {held : Bool} {t0 t1 t2 t3 t4 t5 : TypeId} {args : Array Value} {ds : List (DataW H)} {ps : List MemPlace} (h : DataW.TrodAll enc P w base spare held [t0, t1, t2, t3, t4, t5] args.toList ds ps) :
    ∃ v0 v1 v2 v3 v4 v5 d0 d1 d2 d3 d4 d5 p0 p1 p2 p3 p4 p5, args = #[v0, v1, v2, v3, v4, v5] ∧ ds = [d0, d1, d2, d3, d4, d5] ∧ DataW.Trod enc P w base spare held t0 v0 d0 p0 ∧ DataW.Trod enc P w base spare held t1 v1 d1 p1 ∧ DataW.Trod enc P w base spare held t2 v2 d2 p2 ∧ DataW.Trod enc P w base spare held t3 v3 d3 p3 ∧ DataW.Trod enc P w base spare held t4 v4 d4 p4 ∧ DataW.Trod enc P w base spare held t5 v5 d5 p5 := by
  obtain ⟨v0, vs0, d0, ds0, p0, q0, hargs, rfl, rfl, h0, r0⟩ := trodAll_cons h
  obtain ⟨v1, vs1, d1, ds1, p1, q1, rfl, rfl, rfl, h1, r1⟩ := trodAll_cons r0
  obtain ⟨v2, vs2, d2, ds2, p2, q2, rfl, rfl, rfl, h2, r2⟩ := trodAll_cons r1
  obtain ⟨v3, vs3, d3, ds3, p3, q3, rfl, rfl, rfl, h3, r3⟩ := trodAll_cons r2
  obtain ⟨v4, vs4, d4, ds4, p4, q4, rfl, rfl, rfl, h4, r4⟩ := trodAll_cons r3
  obtain ⟨v5, vs5, d5, ds5, p5, q5, rfl, rfl, rfl, h5, r5⟩ := trodAll_cons r4
  obtain ⟨rfl, rfl, rfl⟩ := trodAll_nil r5
  exact ⟨v0, v1, v2, v3, v4, v5, d0, d1, d2, d3, d4, d5, p0, p1, p2, p3, p4, p5, by cases args; simp_all, rfl, h0, h1, h2, h3, h4, h5⟩
theorem trodAll_seven {H : Type} {enc : TypeId × Value → H} {P : Program} {w : World} {base : Nat} {spare : Nat → Bool} {held : Bool} {t0 t1 t2 t3 t4 t5 t6 : TypeId} {args : Array Value} {ds : List (DataW H)} {ps : List MemPlace} (h : DataW.TrodAll enc P w base spare held [t0, t1, t2, t3, t4, t5, t6] args.toList ds ps) :
    ∃ v0 v1 v2 v3 v4 v5 v6 d0 d1 d2 d3 d4 d5 d6 p0 p1 p2 p3 p4 p5 p6, args = #[v0, v1, v2, v3, v4, v5, v6] ∧ ds = [d0, d1, d2, d3, d4, d5, d6] ∧ DataW.Trod enc P w base spare held t0 v0 d0 p0 ∧ DataW.Trod enc P w base spare held t1 v1 d1 p1 ∧ DataW.Trod enc P w base spare held t2 v2 d2 p2 ∧ DataW.Trod enc P w base spare held t3 v3 d3 p3 ∧ DataW.Trod enc P w base spare held t4 v4 d4 p4 ∧ DataW.Trod enc P w base spare held t5 v5 d5 p5 ∧ DataW.Trod enc P w base spare held t6 v6 d6 p6 := by
  obtain ⟨v0, vs0, d0, ds0, p0, q0, hargs, rfl, rfl, h0, r0⟩ := trodAll_cons h
  obtain ⟨v1, vs1, d1, ds1, p1, q1, rfl, rfl, rfl, h1, r1⟩ := trodAll_cons r0
  obtain ⟨v2, vs2, d2, ds2, p2, q2, rfl, rfl, rfl, h2, r2⟩ := trodAll_cons r1
  obtain ⟨v3, vs3, d3, ds3, p3, q3, rfl, rfl, rfl, h3, r3⟩ := trodAll_cons r2
  obtain ⟨v4, vs4, d4, ds4, p4, q4, rfl, rfl, rfl, h4, r4⟩ := trodAll_cons r3
  obtain ⟨v5, vs5, d5, ds5, p5, q5, rfl, rfl, rfl, h5, r5⟩ := trodAll_cons r4
  obtain ⟨v6, vs6, d6, ds6, p6, q6, rfl, rfl, rfl, h6, r6⟩ := trodAll_cons r5
  obtain ⟨rfl, rfl, rfl⟩ := trodAll_nil r6
  exact ⟨v0, v1, v2, v3, v4, v5, v6, d0, d1, d2, d3, d4, d5, d6, p0, p1, p2, p3, p4, p5, p6, by cases args; simp_all, rfl, h0, h1, h2, h3, h4, h5, h6⟩
end Go.Proofs.YtajfgmlockjmhaiGreatDoor
namespace Go.Proofs.YtajfgmlockjmhaiGreatDoor
open Go.RowKit

set_option maxRecDepth 100000 in
set_option maxHeartbeats 4000000 in
theorem lastib_any (s : ByteArray) (n : Nat) (w : World) (hn : LastNl s.data.toList n) (hl : n ≤ s.size) (hs : s.size ≤ 1000000) :
    Calls Tryz.prog 88 #[.string s, .int .u8 10] w fun e w' => e = .returned (.int .i64 ((n : Int) - 1)) ∧ Below w.heap.size w w' := by
  have hsl : s.data.toList.length = s.size := by simp
  have HN : Hid (LastNl s.data.toList n) := hn
  clear hn
  go_enter Tryz.func88, Tryz.ntmps88
  go_upto_region 2 with fail
  go_loopw [5] (fun i wr => ∃ k : Nat, n ≤ k ∧ k ≤ s.size ∧ i = .int .i64 ((k : Int) - 1) ∧ Below w.heap.size w wr) (fun i _ => (intOf i + 1).toNat)
  case atStart => exact ⟨s.size, hl, Nat.le_refl _, by go_num, Below.refl _ _⟩
  case round =>
    obtain ⟨k, hnk, hks, rfl, hb⟩ := hrel
    rcases Nat.eq_zero_or_pos k with rfl | hk
    · obtain rfl : n = 0 := by omega
      have h0 : decide ((0 : Int) ≤ ((0 : Nat) : Int) - 1) = false := by decide
      go_wp2
      go_ret
      exact ⟨rfl, hb⟩
    · obtain ⟨j, rfl⟩ : ∃ j, k = j + 1 := ⟨k - 1, by omega⟩
      rw [show (((j + 1 : Nat) : Int) - 1) = (j : Int) by omega]
      have hj : j < s.size := by omega
      have hjl : j < s.data.toList.length := by omega
      have hgd : s[j] = s.data.toList[j] := rfl
      by_cases hx : s.data.toList[j] = 10
      · have hnj : n = j + 1 := by
          refine Classical.byContradiction fun hne => HN.out.2 j (by omega) ?_
          rw [List.getElem?_eq_getElem hjl, hx]
        have ht : ((s[j].toNat : Int) == 10) = true := by rw [hgd, hx]; decide
        clear hx hgd
        go_wp2
        go_ret
        exact ⟨by rw [hnj]; simp, hb⟩
      · have hnj : n ≤ j := by
          refine Classical.byContradiction fun hgt => hx ?_
          obtain rfl : n = j + 1 := by omega
          rcases HN.out.1 with h | ⟨_, h⟩
          · omega
          · rw [Nat.add_sub_cancel, List.getElem?_eq_getElem hjl] at h
            exact Option.some.inj h
        have ht : ((s[j].toNat : Int) == 10) = false := by
          rw [hgd]
          simp only [beq_eq_false_iff_ne, ne_eq]
          intro e
          exact hx (UInt8.toNat_inj.1 (by have : (10 : UInt8).toNat = 10 := rfl; omega))
        clear hx hgd
        go_wp2
        go_roundw
        case rel => exact ⟨j, hnj, by omega, by go_num, hb⟩
        case measure => simp [intOf]
set_option maxRecDepth 100000 in
set_option maxHeartbeats 1000000 in
theorem lastix_any (s : ByteArray) (n : Nat) (w : World) (hn : LastNl s.data.toList n) (hl : n ≤ s.size) (hs : s.size ≤ 1000000) :
    Calls Tryz.prog 52 #[.string s, .int .u8 10] w fun e w' => e = .returned (.int .i64 ((n : Int) - 1)) ∧ Below w.heap.size w w' := by
  have hq := lastib_any s n w hn hl hs
  clear hn
  generalize ((n : Int) - 1) = m at *
  go_enter Tryz.func52, Tryz.ntmps52
  go_wp2_with (go_at_call 88; refine hq.mono ?_; rintro e w1 ⟨rfl, b1⟩; clear hq)
  go_ret
  exact ⟨rfl, b1⟩
end Go.Proofs.YtajfgmlockjmhaiGreatDoor
namespace Go.Proofs.YtajfgmlockjmhaiGreatDoor
open Go.RowKit
section
variable {G : World → Prop} {D : KerC G} {w0 : World} {p : PD} {d : LgD} {lb : Nat} {x : LW}

set_option maxRecDepth 100000 in
set_option maxHeartbeats 4000000 in
theorem lgstate_any (r : Int) (w : World) (h : GL D w0 w p d (d.k p) lb x) (hp : plchk p = 0) :
    Calls Tryz.prog 31 #[.pointer (some ⟨lb, 0, none⟩), .int .i64 r] w fun e w' => e = .returned (.tuple #[stA (roomK (d.k p) r), wErr (errB (noRoom (d.k p) r))]) ∧ Below w.heap.size w w' := by
  have hB1 : Below w.heap.size w (w.alloc (.cells #[.int .i64 0, .int .i64 0, .int .i64 0, .int .i64 0, .int .i64 0, .int .i64 0, .int .i64 0, .bool false] 73)) := (Below.refl _ w).alloc (Nat.le_refl _) _
  have hbox : StB (w.alloc (.cells #[.int .i64 0, .int .i64 0, .int .i64 0, .int .i64 0, .int .i64 0, .int .i64 0, .int .i64 0, .bool false] 73)) w.heap.size stNew := World.alloc_heap_new w _
  generalize hW1 : w.alloc (.cells #[.int .i64 0, .int .i64 0, .int .i64 0, .int .i64 0, .int .i64 0, .int .i64 0, .int .i64 0, .bool false] 73) = W1 at hB1 hbox
  have D1 := h.all hB1
  have HS : Hid (Calls Tryz.prog 32 #[.pointer (some ⟨x.kb, 0, none⟩), .int .i64 r] W1 fun e w' => e = .returned (.tuple #[.agg #[.int .i64 (roomK (d.k p) r).p, .int .i64 ((roomK (d.k p) r).c 0), .int .i64 ((roomK (d.k p) r).c 1), .int .i64 ((roomK (d.k p) r).c 2), .int .i64 ((roomK (d.k p) r).c 3), .int .i64 ((roomK (d.k p) r).c 4), .int .i64 ((roomK (d.k p) r).c 5), .bool (roomK (d.k p) r).f], wErr (errB (noRoom (d.k p) r))]) ∧ Below W1.heap.size W1 w') := D.state r D1.k (redo_ok hp _) hp
  obtain ⟨_, _, _, _, c0, _, _, _, _⟩ := D1.blk.cs
  clear h D1 hp
  unfold stA
  generalize roomK (d.k p) r = s at HS ⊢
  generalize wErr (errB (noRoom (d.k p) r)) = ev at HS ⊢
  go_enter Tryz.func31, Tryz.ntmps31
  go_upto_region 1 with fail
  clear hW1
  go_wp2_with (go_at_call 32; refine HS.out.mono ?_; rintro e w1 ⟨rfl, b1⟩; have hst : StB w1 w.heap.size stNew := (b1.block _ (Array.getElem?_eq_some_iff.1 hbox).1).trans hbox; obtain ⟨m0, m1, m2, m3, m4, m5, m6, m7⟩ := hst.cs; simp only [Nat.zero_add] at m1 m2 m3 m4 m5 m6 m7; have z0 := stb_fz hst 0; have z1 := stb_fz hst 1; have z2 := stb_fz hst 2; have z3 := stb_fz hst 3; have z4 := stb_fz hst 4; have z5 := stb_fz hst 5; have z6 := stb_fz hst 6; have z7 := stb_fz hst 7)
  refine bodyPost_ret (v := .tuple #[.agg #[.int .i64 s.p, .int .i64 (s.c 0), .int .i64 (s.c 1), .int .i64 (s.c 2), .int .i64 (s.c 3), .int .i64 (s.c 4), .int .i64 (s.c 5), .bool s.f], ev]) ?_ rfl ⟨rfl, below_st8 (hB1.trans (b1.mono hB1.size)) _ (Nat.le_refl _) _ _ _ _ _ _ _ _⟩
  simp [results, Tryz.results31, go_sem, m0, m1, m2, m3, m4, m5, m6, m7]
end
end Go.Proofs.YtajfgmlockjmhaiGreatDoor
namespace Go.Proofs.YtajfgmlockjmhaiGreatDoor
open Go.RowKit

theorem glogD_state {G : World → Prop} {D : KerC G} {DP : KerPoke D} {DT : KerTime D} {hT : ∀ w, G w → Pow10 w} : LogState (glogD D DP DT hT) := fun r ⟨_, h, _⟩ _ hp => lgstate_any r _ h hp
end Go.Proofs.YtajfgmlockjmhaiGreatDoor
namespace Go.Proofs.YtajfgmlockjmhaiGreatDoor
open Go.RowKit

set_option maxRecDepth 100000 in
set_option maxHeartbeats 2000000 in
theorem number3_long (s : ByteArray) (w : World) (h : 3 < s.size) :
    Calls Tryz.prog 114 #[.string s, .int .i64 3] w fun e w' => e = .returned (.tuple #[.int .i64 0, .bool false]) ∧ Below w.heap.size w w' := by
  go_enter Tryz.func114, Tryz.ntmps114
  go_wp2
  go_ret2
  exact ⟨rfl, Below.refl _ _⟩
set_option maxRecDepth 100000 in
set_option maxHeartbeats 2000000 in
theorem number3_bad (s : ByteArray) (w : World) (hl : s.size ≤ 3) (h : Lib.atoi s.data.toList = none) (he : ErrS w) :
    Calls Tryz.prog 114 #[.string s, .int .i64 3] w fun e w' => e = .returned (.tuple #[.int .i64 0, .bool false]) ∧ Below w.heap.size w w' := by
  have hat := atoi_no s (by omega) h w he
  clear h he
  go_enter Tryz.func114, Tryz.ntmps114
  go_wp2_with (go_at_call 152; refine hat.mono ?_; rintro e w1 ⟨t, p, rfl, b1⟩; clear hat)
  go_ret2
  exact ⟨rfl, b1⟩
set_option maxRecDepth 100000 in
set_option maxHeartbeats 2000000 in
theorem number3_neg (s : ByteArray) (n : Int) (w : World) (hl : s.size ≤ 3) (h : Lib.atoi s.data.toList = some n) (hn : n < 0) :
    Calls Tryz.prog 114 #[.string s, .int .i64 3] w fun e w' => e = .returned (.tuple #[.int .i64 0, .bool false]) ∧ Below w.heap.size w w' := by
  have hat := atoi_yes s n (by omega) h w
  clear h
  go_enter Tryz.func114, Tryz.ntmps114
  go_wp2_with (go_at_call 152; refine hat.mono ?_; rintro e w1 ⟨rfl, b1⟩; clear hat)
  go_ret2
  exact ⟨rfl, b1⟩
set_option maxRecDepth 100000 in
set_option maxHeartbeats 2000000 in
theorem number3_yes (s : ByteArray) (n : Int) (w : World) (hl : s.size ≤ 3) (h : Lib.atoi s.data.toList = some n) (hn : 0 ≤ n) (hp : Pow10 w) (hB : (Lib.itoa n == s.toList) = true) :
    Calls Tryz.prog 114 #[.string s, .int .i64 3] w fun e w' => e = .returned (.tuple #[.int .i64 n, .bool true]) ∧ Below w.heap.size w w' := by
  have hr := atoi_range (by simpa using (show s.size ≤ 18 by omega)) h
  have hat := atoi_yes s n (by omega) h w
  clear h
  go_enter Tryz.func114, Tryz.ntmps114
  go_wp2_with (first | (go_at_call 152; refine hat.mono ?_; rintro e w1 ⟨rfl, b1⟩; clear hat) | (go_at_call 105; refine (itoa_any n hr.1 hr.2 w1 (hp.all b1)).mono ?_; rintro e w2 ⟨rfl, b2⟩))
  go_ret2
  exact ⟨rfl, b1.trans (b2.mono b1.size)⟩
set_option maxRecDepth 100000 in
set_option maxHeartbeats 2000000 in
theorem number3_other (s : ByteArray) (n : Int) (w : World) (hl : s.size ≤ 3) (h : Lib.atoi s.data.toList = some n) (hn : 0 ≤ n) (hp : Pow10 w) (hB : (Lib.itoa n == s.toList) = false) :
    Calls Tryz.prog 114 #[.string s, .int .i64 3] w fun e w' => e = .returned (.tuple #[.int .i64 0, .bool false]) ∧ Below w.heap.size w w' := by
  have hr := atoi_range (by simpa using (show s.size ≤ 18 by omega)) h
  have hat := atoi_yes s n (by omega) h w
  clear h
  go_enter Tryz.func114, Tryz.ntmps114
  go_wp2_with (first | (go_at_call 152; refine hat.mono ?_; rintro e w1 ⟨rfl, b1⟩; clear hat) | (go_at_call 105; refine (itoa_any n hr.1 hr.2 w1 (hp.all b1)).mono ?_; rintro e w2 ⟨rfl, b2⟩))
  go_ret2
  exact ⟨rfl, b1.trans (b2.mono b1.size)⟩

theorem number3_any (s : ByteArray) (w : World) (ht : Tabs2 w) :
    Calls Tryz.prog 114 #[.string s, .int .i64 3] w fun e w' => e = .returned (.tuple #[.int .i64 ((numB3 s.data.toList).getD 0), .bool (numB3 s.data.toList).isSome]) ∧ Below w.heap.size w w' := by
  have hsl : s.data.toList.length = s.size := by simp
  have hst : s.toList = s.data.toList := Lib.toList_data s
  by_cases h1 : 3 < s.size
  · rw [numB3_long (by omega)]; exact number3_long s w h1
  · cases h2 : Lib.atoi s.data.toList with
    | none => rw [numB3_bad h2]; exact number3_bad s w (by omega) h2 ht.err
    | some n =>
      by_cases h3 : n < 0
      · rw [numB3_neg h2 h3]; exact number3_neg s n w (by omega) h2 h3
      · by_cases h4 : Lib.itoa n = s.data.toList
        · rw [numB3_yes (by omega) h2 (by omega) h4]; exact number3_yes s n w (by omega) h2 (by omega) ht.tabs.pow (by rw [hst]; simpa using h4)
        · rw [numB3_other h2 h4]; exact number3_other s n w (by omega) h2 (by omega) ht.tabs.pow (by rw [hst]; simpa using h4)
end Go.Proofs.YtajfgmlockjmhaiGreatDoor
namespace Go.Proofs.YtajfgmlockjmhaiGreatDoor
open Go.RowKit

set_option maxRecDepth 100000 in
set_option maxHeartbeats 2000000 in
theorem number7_long (s : ByteArray) (w : World) (h : 7 < s.size) :
    Calls Tryz.prog 114 #[.string s, .int .i64 7] w fun e w' => e = .returned (.tuple #[.int .i64 0, .bool false]) ∧ Below w.heap.size w w' := by
  go_enter Tryz.func114, Tryz.ntmps114
  go_wp2
  go_ret2
  exact ⟨rfl, Below.refl _ _⟩
set_option maxRecDepth 100000 in
set_option maxHeartbeats 2000000 in
theorem number7_bad (s : ByteArray) (w : World) (hl : s.size ≤ 7) (h : Lib.atoi s.data.toList = none) (he : ErrS w) :
    Calls Tryz.prog 114 #[.string s, .int .i64 7] w fun e w' => e = .returned (.tuple #[.int .i64 0, .bool false]) ∧ Below w.heap.size w w' := by
  have hat := atoi_no s (by omega) h w he
  clear h he
  go_enter Tryz.func114, Tryz.ntmps114
  go_wp2_with (go_at_call 152; refine hat.mono ?_; rintro e w1 ⟨t, p, rfl, b1⟩; clear hat)
  go_ret2
  exact ⟨rfl, b1⟩
set_option maxRecDepth 100000 in
set_option maxHeartbeats 2000000 in
theorem number7_neg (s : ByteArray) (n : Int) (w : World) (hl : s.size ≤ 7) (h : Lib.atoi s.data.toList = some n) (hn : n < 0) :
    Calls Tryz.prog 114 #[.string s, .int .i64 7] w fun e w' => e = .returned (.tuple #[.int .i64 0, .bool false]) ∧ Below w.heap.size w w' := by
  have hat := atoi_yes s n (by omega) h w
  clear h
  go_enter Tryz.func114, Tryz.ntmps114
  go_wp2_with (go_at_call 152; refine hat.mono ?_; rintro e w1 ⟨rfl, b1⟩; clear hat)
  go_ret2
  exact ⟨rfl, b1⟩
set_option maxRecDepth 100000 in
set_option maxHeartbeats 2000000 in
theorem number7_yes (s : ByteArray) (n : Int) (w : World) (hl : s.size ≤ 7) (h : Lib.atoi s.data.toList = some n) (hn : 0 ≤ n) (hp : Pow10 w) (hB : (Lib.itoa n == s.toList) = true) :
    Calls Tryz.prog 114 #[.string s, .int .i64 7] w fun e w' => e = .returned (.tuple #[.int .i64 n, .bool true]) ∧ Below w.heap.size w w' := by
  have hr := atoi_range (by simpa using (show s.size ≤ 18 by omega)) h
  have hat := atoi_yes s n (by omega) h w
  clear h
  go_enter Tryz.func114, Tryz.ntmps114
  go_wp2_with (first | (go_at_call 152; refine hat.mono ?_; rintro e w1 ⟨rfl, b1⟩; clear hat) | (go_at_call 105; refine (itoa_any n hr.1 hr.2 w1 (hp.all b1)).mono ?_; rintro e w2 ⟨rfl, b2⟩))
  go_ret2
  exact ⟨rfl, b1.trans (b2.mono b1.size)⟩
set_option maxRecDepth 100000 in
set_option maxHeartbeats 2000000 in
theorem number7_other (s : ByteArray) (n : Int) (w : World) (hl : s.size ≤ 7) (h : Lib.atoi s.data.toList = some n) (hn : 0 ≤ n) (hp : Pow10 w) (hB : (Lib.itoa n == s.toList) = false) :
    Calls Tryz.prog 114 #[.string s, .int .i64 7] w fun e w' => e = .returned (.tuple #[.int .i64 0, .bool false]) ∧ Below w.heap.size w w' := by
  have hr := atoi_range (by simpa using (show s.size ≤ 18 by omega)) h
  have hat := atoi_yes s n (by omega) h w
  clear h
  go_enter Tryz.func114, Tryz.ntmps114
  go_wp2_with (first | (go_at_call 152; refine hat.mono ?_; rintro e w1 ⟨rfl, b1⟩; clear hat) | (go_at_call 105; refine (itoa_any n hr.1 hr.2 w1 (hp.all b1)).mono ?_; rintro e w2 ⟨rfl, b2⟩))
  go_ret2
  exact ⟨rfl, b1.trans (b2.mono b1.size)⟩

theorem number7_any (s : ByteArray) (w : World) (ht : Tabs2 w) :
    Calls Tryz.prog 114 #[.string s, .int .i64 7] w fun e w' => e = .returned (.tuple #[.int .i64 ((numB7 s.data.toList).getD 0), .bool (numB7 s.data.toList).isSome]) ∧ Below w.heap.size w w' := by
  have hsl : s.data.toList.length = s.size := by simp
  have hst : s.toList = s.data.toList := Lib.toList_data s
  by_cases h1 : 7 < s.size
  · rw [numB7_long (by omega)]; exact number7_long s w h1
  · cases h2 : Lib.atoi s.data.toList with
    | none => rw [numB7_bad h2]; exact number7_bad s w (by omega) h2 ht.err
    | some n =>
      by_cases h3 : n < 0
      · rw [numB7_neg h2 h3]; exact number7_neg s n w (by omega) h2 h3
      · by_cases h4 : Lib.itoa n = s.data.toList
        · rw [numB7_yes (by omega) h2 (by omega) h4]; exact number7_yes s n w (by omega) h2 (by omega) ht.tabs.pow (by rw [hst]; simpa using h4)
        · rw [numB7_other h2 h4]; exact number7_other s n w (by omega) h2 (by omega) ht.tabs.pow (by rw [hst]; simpa using h4)
end Go.Proofs.YtajfgmlockjmhaiGreatDoor
