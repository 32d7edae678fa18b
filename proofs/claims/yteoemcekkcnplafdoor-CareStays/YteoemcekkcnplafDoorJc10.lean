/-
  WOpen, WayL, FlRoom, KerG, Blk4, PrgE, PrgCP, CStays0, EvEq, FlEither, OpsL, RPurge, POpen, Trod: joined into one text.
-/
import Derived.Test.YteoemcekkcnplafDoorLaw
import Derived.Test.YteoemcekkcnplafDoorJc1
import Derived.Lib.SmallJoins
import Derived.Deep.Slices
import Derived.Deep.RegionWith
import Derived.Deep.MidRow
import Derived.Deep.CutRange
import Derived.Test.YteoemcekkcnplafDoorJc8
import Derived.Test.YteoemcekkcnplafDoorJc9
import Derived.Test.YteoemcekkcnplafDoorGTick
import Derived.Test.YteoemcekkcnplafDoorGNew
import Derived.Test.YteoemcekkcnplafDoorJc3
import Derived.Test.YteoemcekkcnplafDoorJc2
import Derived.Test.YteoemcekkcnplafDoorJc5
import Derived.Laws.StructEq
import Derived.Test.YteoemcekkcnplafDoorFrameOwn
import Derived.Test.YteoemcekkcnplafDoorRowL
import Derived.RangeFuncRecord
import Derived.Deep.RegionLaw
namespace Go.Proofs.YteoemcekkcnplafDoor
open Go.ChangeShapes Go.WideShapes Go.ChangeAt Go.WideElems Go.RowKit Go.Deep

set_option maxRecDepth 100000 in
theorem open_wire {H : Type} {enc : TypeId × Value → H} {W : World} {base b0 : Nat} {sp : Nat → Bool} {held : Bool} {r : Reach} {v : Value} {d : DataW H} {p : List MemPlace} (hv : Value.okWide Tryd.prog W r b0 76 v)
    (h : DataW.Trod enc Tryd.prog W base sp held 76 v d p) : ∃ f t k q : Int, v = wV f t k q := by
  obtain ⟨v0, v1, v2, v3, y0, y1, y2, y3, m, rfl, _, _, h0, h1, h2, h3⟩ := Joins.open_agg4 Tryd.underlying76 (by kernel_rfl) (by kernel_rfl) hv h
  obtain ⟨n, e0, _, _⟩ := DataW.trod_int Tryd.underlying3 h0
  obtain ⟨a, e1, _, _⟩ := DataW.trod_int Tryd.underlying3 h1
  obtain ⟨b, e2, _, _⟩ := DataW.trod_int Tryd.underlying3 h2
  obtain ⟨c, e3, _, _⟩ := DataW.trod_int Tryd.underlying3 h3
  simp only [List.cons.injEq, and_true] at e0 e1 e2 e3
  subst e0; subst e1; subst e2; subst e3
  exact ⟨n, a, b, c, rfl⟩
theorem spot_none {W : World} {a : Addr} {v : Value} (h : W.cell? a = some v) : a = ⟨a.block, a.off, none⟩ ∧ a.block < W.heap.size := by
  obtain ⟨b, o, s⟩ := a
  unfold World.cell? at h
  simp only at h
  cases hb : W.heap[b]? with
  | none => rw [hb] at h; cases h
  | some x =>
    rw [hb] at h
    refine ⟨?_, (Array.getElem?_eq_some_iff.1 hb).1⟩
    cases x <;> simp at h
    cases s with
    | none => rfl
    | some s => simp at h
set_option maxRecDepth 100000 in
theorem open_stp {H : Type} {enc : TypeId × Value → H} {W : World} {b0 : Nat} {r : Reach} {v : Value} {d : DataW H} {p : List MemPlace} (hv : Value.okWide Tryd.prog W r b0 43 v)
    (h : DataW.Trod enc Tryd.prog W 0 (fun _ => true) true 43 v d p) : ∃ l : List Int, Stp W v l := by
  obtain ⟨a0, len0, cap0, rfl⟩ := okWide_slice Tryd.underlying43 hv
  obtain ⟨fuel, hf⟩ := h
  rcases open_ints Tryd.underlying43 Tryd.underlying3 (by kernel_rfl) hf with ⟨hcs, _⟩ | ⟨a, len, cap, zs, hcs, _, hl, _, hz, _, hc, _⟩
  · simp [Value.cells] at hcs
    obtain ⟨rfl, rfl, rfl⟩ := hcs
    exact ⟨[], Or.inl ⟨rfl, _, _, rfl⟩⟩
  · simp [Value.cells] at hcs
    obtain ⟨rfl, rfl, rfl⟩ := hcs
    have hlz : len0 ≤ zs.length := by rw [hz]; simpa using hl
    by_cases h0 : len0 = 0
    · subst h0
      exact ⟨[], Or.inl ⟨rfl, _, _, rfl⟩⟩
    · have hz0 := hc 0 (by omega)
      rw [show a.add 0 = a from by simp [Addr.add]] at hz0
      obtain ⟨ha, hlt⟩ := spot_none hz0
      have hlen : (zs.take len0).length = len0 := by rw [List.length_take]; omega
      refine ⟨zs.take len0, Or.inr ⟨a.block, a.off, cap0, by rw [hlen, ← ha], hlt, fun i x hx => ?_⟩⟩
      have hi : i < len0 := by
        have := (List.getElem?_eq_some_iff.1 hx).1
        omega
      have h1 := hc i (by omega)
      rw [ha, Addr.add_lit] at h1
      rw [List.getElem?_take, if_pos hi] at hx
      rw [List.getD_eq_getElem?_getD, hx] at h1
      exact h1
end Go.Proofs.YteoemcekkcnplafDoor
namespace Go.Proofs.YteoemcekkcnplafDoor
open Go.RowKit

/-- Five rows of five, in a block. -/
def Mx (w : World) (b : Nat) (M : Nat → Nat → Bool) : Prop := ∀ i k, i < 5 → k < 5 → w.cell? ⟨b, i * 5 + k, none⟩ = some (.bool (M i k)) ∧ w.frozen? ⟨b, i * 5 + k, none⟩ = false
def mset (M : Nat → Nat → Bool) (i k : Nat) : Nat → Nat → Bool := fun x y => if x = i ∧ y = k then true else M x y
theorem mset_at (M : Nat → Nat → Bool) (i k : Nat) : mset M i k i k = true := by simp [mset]
theorem mset_off (M : Nat → Nat → Bool) {i k x y : Nat} (h : ¬ (x = i ∧ y = k)) : mset M i k x y = M x y := by simp [mset, h]
theorem Mx.set {w : World} {b : Nat} {M : Nat → Nat → Bool} (h : Mx w b M) {i k : Nat} (hi : i < 5) (hk : k < 5) : Mx (w.setCell ⟨b, i * 5 + k, none⟩ (.bool true)) b (mset M i k) := fun x y hx hy => by
  obtain ⟨h1, h2⟩ := h x y hx hy
  obtain ⟨h3, h4⟩ := h i k hi hk
  refine ⟨?_, (World.frozen?_setCell _ _ _ _).trans h2⟩
  by_cases he : x = i ∧ y = k
  · obtain ⟨rfl, rfl⟩ := he
    rw [mset_at]
    simp [go_sem, h1]
  · rw [mset_off _ he]
    rw [World.cell?_setCell_other _ _ _ _ (by intro e; injection e with _ e2; omega)]
    exact h1
theorem Mx.below {w w' : World} {b B : Nat} {M : Nat → Nat → Bool} (h : Mx w b M) (hb : Below B w w') (hB : b < B) : Mx w' b M := fun x y hx hy =>
  ⟨(hb.cell (p := ⟨b, _, none⟩) hB).trans (h x y hx hy).1, (hb.frozen (p := ⟨b, _, none⟩) hB).trans (h x y hx hy).2⟩
theorem Mx.apart {w : World} {b c : Nat} {M : Nat → Nat → Bool} (h : Mx w b M) (hne : b ≠ c) (i : Nat) (u : Value) : Mx (w.setCell ⟨c, i, none⟩ u) b M := fun x y hx hy =>
  ⟨(World.cell?_of_block (w := w) (a := ⟨b, x * 5 + y, none⟩) (Below.heap_setCell _ _ _ _ hne)).trans (h x y hx hy).1, (World.frozen?_setCell _ _ _ _).trans (h x y hx hy).2⟩
theorem Mx.drew {w : World} {b : Nat} {M : Nat → Nat → Bool} (h : Mx w b M) : Mx w.drew b M := h
theorem take_snoc4 {l : List W4} {k : Nat} {x : W4} (h : l[k]? = some x) : l.take (k + 1) = l.take k ++ [x] := by
  obtain ⟨hk, rfl⟩ := List.getElem?_eq_some_iff.1 h
  rw [List.take_succ_eq_append_getElem hk]
theorem Mx.congr {w : World} {b : Nat} {M N : Nat → Nat → Bool} (h : Mx w b M) (he : ∀ x y, x < 5 → y < 5 → M x y = N x y) : Mx w b N := fun x y hx hy => by rw [← he x y hx hy]; exact h x y hx hy
/-- Within one m: between what was and what will be. -/
def Win (e : Nat → Nat → Bool) (m i k : Nat) (M : Nat → Nat → Bool) : Prop := ∀ x y, x < 5 → y < 5 → (pm e m x y = true → M x y = true) ∧ (M x y = true → pm e (m + 1) x y = true) ∧ ((x < i ∨ (x = i ∧ y < k)) → M x y = pm e (m + 1) x y)
theorem Win.start (e : Nat → Nat → Bool) (m : Nat) : Win e m 0 0 (pm e m) := fun x y _ _ => ⟨id, pm_grow, fun h => by omega⟩
theorem Win.line {e : Nat → Nat → Bool} {m i : Nat} {M : Nat → Nat → Bool} (h : Win e m i 5 M) : Win e m (i + 1) 0 M := fun x y hx hy => ⟨(h x y hx hy).1, (h x y hx hy).2.1, fun hh => (h x y hx hy).2.2 (by omega)⟩
theorem Win.last {e : Nat → Nat → Bool} {m : Nat} {M : Nat → Nat → Bool} (h : Win e m 5 0 M) : ∀ x y, x < 5 → y < 5 → M x y = pm e (m + 1) x y := fun x y hx hy => (h x y hx hy).2.2 (by omega)
theorem Win.yes {e : Nat → Nat → Bool} {m i k : Nat} {M : Nat → Nat → Bool} (h : Win e m i k M) (hm : m < 5) (hi : i < 5) (hk : k < 5) (h1 : M i m = true) (h2 : M m k = true) : Win e m i (k + 1) (mset M i k) := by
  have hv : pm e (m + 1) i k = true := pm_via (pm_col ((h i m hi hm).2.1 h1)) (pm_row ((h m k hm hk).2.1 h2))
  intro x y hx hy
  by_cases he : x = i ∧ y = k
  · obtain ⟨rfl, rfl⟩ := he
    rw [mset_at]
    exact ⟨fun _ => rfl, fun _ => hv, fun _ => hv.symm⟩
  · rw [mset_off _ he]
    exact ⟨(h x y hx hy).1, (h x y hx hy).2.1, fun hh => (h x y hx hy).2.2 (by omega)⟩
theorem Win.no {e : Nat → Nat → Bool} {m i k : Nat} {M : Nat → Nat → Bool} (h : Win e m i k M) (hm : m < 5) (hi : i < 5) (hk : k < 5) (h0 : ¬ (M i m = true ∧ M m k = true)) : Win e m i (k + 1) M := by
  intro x y hx hy
  refine ⟨(h x y hx hy).1, (h x y hx hy).2.1, fun hh => ?_⟩
  by_cases he : x = i ∧ y = k
  · obtain ⟨rfl, rfl⟩ := he
    cases hM : M x y with
    | true => exact ((h x y hx hy).2.1 hM).symm
    | false =>
      cases hp : pm e (m + 1) x y with
      | false => rfl
      | true =>
        rcases pm_cases hp with a | ⟨a, b⟩
        · rw [(h x y hx hy).1 a] at hM; cases hM
        · exact absurd ⟨(h x m hx hm).1 a, (h m y hm hy).1 b⟩ h0
  · exact (h x y hx hy).2.2 (by omega)
theorem edge_snoc (l : List W4) (f t k d : Int) (i j : Nat) (hi : f = (i : Int)) (hj : t = (j : Int)) : ∀ x y, mset (edge l) i j x y = edge (l ++ [(f, t, k, d)]) x y := fun x y => by
  subst hi
  subst hj
  by_cases he : x = i ∧ y = j
  · obtain ⟨rfl, rfl⟩ := he
    rw [mset_at, edge_wire (x := ((x : Int), (y : Int), k, d)) (by simp) rfl rfl]
  · rw [mset_off _ he]
    simp only [edge, List.any_append, List.any_cons, List.any_nil, Bool.or_false]
    have : (decide ((i : Int) = (x : Int)) && decide ((j : Int) = (y : Int))) = false := by
      rw [Bool.and_eq_false_iff]
      by_cases h1 : x = i
      · right; simp; omega
      · left; simp; omega
    rw [this]
    simp
/-- The diagonal, so far. -/
def dg (n : Nat) : Nat → Nat → Bool := fun x y => decide (x = y) && decide (x < n)
theorem dg_succ (n : Nat) : ∀ x y, mset (dg n) n n x y = dg (n + 1) x y := fun x y => by
  by_cases he : x = n ∧ y = n
  · obtain ⟨rfl, rfl⟩ := he
    rw [mset_at]; simp [dg]
  · rw [mset_off _ he]
    unfold dg
    by_cases hxy : x = y
    · have : x ≠ n := fun h => he ⟨h, hxy ▸ h⟩
      simp only [hxy, decide_true, Bool.true_and, decide_eq_decide]
      omega
    · simp [hxy]
theorem dg_five : ∀ x y, x < 5 → y < 5 → dg 5 x y = edge [] x y := fun x y hx _ => by simp [dg, edge, hx]

/-- All ways as cells. -/
def wayCells (l : List W4) : List Value := (List.range 25).map fun j => .bool (way l (j / 5) (j % 5))
theorem way_one (l : List W4) : (wayCells l).toArray.all (·.oneCell') = true := all_oneCell_toArray fun v hv => by
  obtain ⟨x, _, rfl⟩ := List.mem_map.1 hv
  rfl
theorem Mx.range {w : World} {b : Nat} {l : List W4} (h : Mx w b (pm (edge l) 5)) : w.rangeAt b 0 (wayCells l) := fun j v hv => by
  have hj : j < 25 := by
    have := (List.getElem?_eq_some_iff.1 hv).1
    simpa [wayCells] using this
  have hv' : v = .bool (way l (j / 5) (j % 5)) := by
    simp only [wayCells, List.getElem?_map, List.getElem?_range hj, Option.map_some, Option.some.injEq] at hv
    exact hv.symm
  have := (h (j / 5) (j % 5) (by omega) (by omega)).1
  rw [show j / 5 * 5 + j % 5 = j by omega] at this
  rw [Nat.zero_add, hv', this]
  rfl
theorem Mx.there {w : World} {b : Nat} {M : Nat → Nat → Bool} (h : Mx w b M) : w.there b 0 25 := fun j hj => by
  have := h (j / 5) (j % 5) (by omega) (by omega)
  rw [show j / 5 * 5 + j % 5 = j by omega] at this
  rw [Nat.zero_add]
  exact ⟨by rw [this.1]; rfl, this.2⟩
theorem below_cells {B : Nat} {w0 w : World} (h : Below B w0 w) {b : Nat} (hb : B ≤ b) : ∀ (vs : List Value) (o : Nat), Below B w0 (w.setCells b o vs) := fun vs => by
  revert w
  induction vs with
  | nil => intro w h o; exact h
  | cons v r ih => intro w h o; exact ih (h.setCell (p := ⟨b, o, none⟩) hb v) (o + 1)
/-- One result that lies in memory. -/
theorem results_cell {P : Program} {fn : Func} {tmps : Array Value} {w : World} {s : Nat} {t : TypeId} {ad : Addr} {v : Value} (hf : fn.results = #[.cell s t]) (ha : tmps.getD s undef = .pointer (some ad)) (hl : (loadVar t ad).run P w = .ok v w) : (results fn tmps).run P w = .ok v w := by
  unfold results
  rw [hf]
  have e : ∀ f : ResultVar → Sem Value, Array.mapM f #[ResultVar.cell s t] = (do let x ← f (.cell s t); pure #[x]) := fun f => by simp [Array.mapM_eq_mapM_toList]
  rw [e]
  simp only [ha, asAddr, Sem.run_bind, Sem.run_pure, Result.andThen_ok, hl]
  simp
theorem five {P : Nat → Prop} (h0 : P 0) (h1 : P 1) (h2 : P 2) (h3 : P 3) (h4 : P 4) : ∀ x, x < 5 → P x
  | 0, _ => h0
  | 1, _ => h1
  | 2, _ => h2
  | 3, _ => h3
  | 4, _ => h4
  | n + 5, h => by omega
end Go.Proofs.YteoemcekkcnplafDoor
namespace Go.Proofs.YteoemcekkcnplafDoor
open Go.RowKit

set_option maxRecDepth 100000 in
set_option maxHeartbeats 1000000 in
theorem flroom_yes (r : Int) (w : World) (h0 : 0 ≤ r) (h1 : r < 5) : Calls Tryd.prog 58 #[.int .i64 r] w fun e w' => e = .returned (.bool true) ∧ w' = w := by
  go_enter Tryd.func58, Tryd.ntmps58
  go_wp2
  go_ret
  exact ⟨rfl, rfl⟩
set_option maxRecDepth 100000 in
set_option maxHeartbeats 1000000 in
theorem flroom_no (r : Int) (w : World) (h : ¬ (0 ≤ r ∧ r < 5)) : Calls Tryd.prog 58 #[.int .i64 r] w fun e w' => e = .returned (.bool false) ∧ w' = w := by
  by_cases h0 : 0 ≤ r
  · have h1 : decide (r < 5) = false := by simp; omega
    clear h
    go_enter Tryd.func58, Tryd.ntmps58
    go_wp2
    go_ret
    exact ⟨rfl, rfl⟩
  · have h0' : decide (0 ≤ r) = false := by simp; omega
    clear h
    go_enter Tryd.func58, Tryd.ntmps58
    go_wp2
    go_ret
    exact ⟨rfl, rfl⟩
end Go.Proofs.YteoemcekkcnplafDoor
namespace Go.Proofs.YteoemcekkcnplafDoor
open Go.RowKit

/-- A kernel of package kernel, made since w0, and all its blocks. -/
def KG (w0 w : World) (p : PD) (k : KD) (kb : Nat) (F : List Nat) : Prop := ∃ a : GW, GK w w0.heap.size p k kb a ∧ F = a.F kb ∧ Below w0.heap.size w0 w
def gker {G : World → Prop} (hG : ∀ w, G w → Forms w) (hall : ∀ w w', G w → Below w.heap.size w w' → G w') : KerC G where
  K := fun w0 w p _ _ _ k kb F => KG w0 w p k kb F
  all := hall
  since := fun ⟨_, _, _, hb⟩ => hb
  ge := fun ⟨_, h, hF, _⟩ g hg => by
    subst hF
    exact ⟨h.ge g hg, h.flt g hg⟩
  lower := fun h1 ⟨a, h, hF, hb⟩ => ⟨a, h.lower h1.size, hF, h1.trans (hb.mono h1.size)⟩
  frame := fun ⟨a, h, hF, hb⟩ ht hM => by
    subst hF
    exact ⟨a, h.frame ht (fun m hm => (hM m hm).1), rfl, hb.trans (ht.below (fun m hm => (hM m hm).2) hb.size)⟩
  new := fun p vc vs vw W hg hP hp => by
    refine (gnew_ok p vc vs vw W (hG W hg) hP hp).mono ?_
    rintro e w' ⟨kb, a, rfl, h, hb⟩
    exact ⟨kb, _, rfl, a, h, rfl, hb⟩
  no := fun p vc vs vw W hg hP hp => gnew_no p vc vs vw W (hG W hg) hP hp
  tick := fun {w0 W p _ _ _ k kb F} hg ⟨a, h, hF, hb⟩ hp hk ht => by
    subst hF
    refine (gtick_any p k kb w0.heap.size a W ((hG w0 hg).all hb) h hb.size hp hk ht).mono ?_
    rintro e w' ⟨rfl, a', h1, h2, h3⟩
    exact ⟨rfl, _, ⟨a', h1, rfl, hb.trans (h2.below h.ge hb.size)⟩, h2, h3⟩
  state := fun {_ W p _ _ _ k kb _} r ⟨a, h, _, _⟩ _ _ => gstate_any p k kb _ a r W h
end Go.Proofs.YteoemcekkcnplafDoor
namespace Go.Proofs.YteoemcekkcnplafDoor
open Go.RowKit

theorem set4_blk {w : World} {kb : Nat} {a b c d a' b' c' d' : Value} {t : TypeId} (h : w.heap[kb]? = some (.cells #[a, b, c, d] t (0, 0))) : ((((w.setCell ⟨kb, 0, none⟩ a').setCell ⟨kb, 1, none⟩ b').setCell ⟨kb, 2, none⟩ c').setCell ⟨kb, 3, none⟩ d').heap[kb]? = some (.cells #[a', b', c', d'] t (0, 0)) := by
  simp [World.setCell, Array.getElem?_modify, h]
theorem set4_below {B : Nat} {w w' : World} (h : Below B w w') (b : Nat) (hb : B ≤ b) (x0 x1 x2 x3 : Value) : Below B w ((((w'.setCell ⟨b, 0, none⟩ x0).setCell ⟨b, 1, none⟩ x1).setCell ⟨b, 2, none⟩ x2).setCell ⟨b, 3, none⟩ x3) :=
  (((h.setCell (p := ⟨b, 0, none⟩) hb x0).setCell (p := ⟨b, 1, none⟩) hb x1).setCell (p := ⟨b, 2, none⟩) hb x2).setCell (p := ⟨b, 3, none⟩) hb x3
theorem set4_touch (w : World) (b : Nat) (x0 x1 x2 x3 : Value) : KTouch [b] w ((((w.setCell ⟨b, 0, none⟩ x0).setCell ⟨b, 1, none⟩ x1).setCell ⟨b, 2, none⟩ x2).setCell ⟨b, 3, none⟩ x3) :=
  have hm : b ∈ [b] := by simp
  (((KTouch.set w hm 0 x0).trans (KTouch.set _ hm 1 x1)).trans (KTouch.set _ hm 2 x2)).trans (KTouch.set _ hm 3 x3)
theorem blk4_cs {w : World} {kb : Nat} {a b c d : Value} {t : TypeId} (h : w.heap[kb]? = some (.cells #[a, b, c, d] t (0, 0))) : w.cell? ⟨kb, 0, none⟩ = some a ∧ w.cell? ⟨kb, 1, none⟩ = some b ∧ w.cell? ⟨kb, 2, none⟩ = some c ∧ w.cell? ⟨kb, 3, none⟩ = some d ∧ w.frozen? ⟨kb, 0, none⟩ = false ∧ w.frozen? ⟨kb, 1, none⟩ = false ∧ w.frozen? ⟨kb, 2, none⟩ = false ∧ w.frozen? ⟨kb, 3, none⟩ = false := by
  simp [World.cell?, World.frozen?, h]
end Go.Proofs.YteoemcekkcnplafDoor
namespace Go.Proofs.YteoemcekkcnplafDoor

/-- What is wrong with a plan, or a room of it. -/
def prgE (p : PD) (r : Int) : Int := if plchk p = 0 then (if r < 0 ∨ (p.code.length : Int) ≤ r then 1 else 0) else plchk p
theorem prgE_two (p : PD) (r : Int) : prgE p r = if plchk p = 0 ∧ (r < 0 ∨ (p.code.length : Int) ≤ r) then 1 else plchk p := by
  unfold prgE
  by_cases h : plchk p = 0
  · by_cases h2 : r < 0 ∨ (p.code.length : Int) ≤ r
    · rw [if_pos h, if_pos h2, if_pos ⟨h, h2⟩]
    · rw [if_pos h, if_neg h2, if_neg (fun e => h2 e.2), h]
  · rw [if_neg h, if_neg (fun e => h e.1)]
theorem prgE_zero {p : PD} {r : Int} (h : prgE p r = 0) : plchk p = 0 ∧ 0 ≤ r ∧ r < (p.code.length : Int) := by
  unfold prgE at h
  split at h
  · rename_i h1
    split at h
    · omega
    · exact ⟨h1, by omega, by omega⟩
  · omega
end Go.Proofs.YteoemcekkcnplafDoor
namespace Go.Proofs.YteoemcekkcnplafDoor
open Go.RowKit

/-- No plan. -/
def noPlan : PD := ⟨[], 0, [], []⟩
/-- The plan without those that cannot tell a room. -/
def prgP (p : PD) (r : Int) : PD := if prgE p r = 0 then purgeP p (fun i => way p.wires i r.toNat) else noPlan
def PrgPurge (G : World → Prop) : Prop := ∀ (p : PD) (vc vs vw : Value) (r : Int) (W : World), G W → Pln W vc vs vw p → Calls Tryd.prog 17 #[plV vc p.ticks vs vw, .int .i64 r] W fun e w' => ∃ ic is iw, e = .returned (.tuple #[plV ic (prgP p r).ticks is iw, wErr (prgE p r)]) ∧ Pln w' ic is iw (prgP p r) ∧ Below W.heap.size W w'
end Go.Proofs.YteoemcekkcnplafDoor
namespace Go.Proofs.YteoemcekkcnplafDoor
open Go.RowKit

/-- The law's own plan: a room that fails. -/
def failP : PD := ⟨[[(11, 0, 0)]], 1, [(0, 1, 0)], []⟩
theorem fail_carE : carE failP [1] 1 = 0 := by decide +kernel
def failD : Nat → CD
  | 0 => newC failP
  | j + 1 => tickC failP [1] 1 (failD j)
theorem fail_0 : (evC failP [1] 1 (failD 0)).2.2.2 = 4 := by decide +kernel
theorem fail_1 : (evC failP [1] 1 (failD 1)).2.2.2 = 4 := by decide +kernel
theorem fail_2 : (evC failP [1] 1 (failD 2)).2.2.2 = 5 := by decide +kernel
theorem fail_t : timesC (failD 3) 0 = 1 ∧ noRoom (failD 3).k 0 = false := by decide +kernel
theorem failD_ok : ∀ j, COk failP [1] 1 (failD j)
  | 0 => newC_ok fail_carE
  | j + 1 => tickC_ok (carE_zero fail_carE).1 (failD_ok j)
theorem fail_time : ∀ j, (failD j).k.time = j
  | 0 => rfl
  | j + 1 => by
    show (tickK failP failP.spans (helpC failP [1] 1 (failD j)).k).1.time = _
    rw [tick_time, help_time, fail_time j]
    omega
/-- It lies in the world. -/
theorem failP_pln (W : World) (n : Nat) (hn : n = W.heap.size) : Pln (((W.alloc (.cells #[.int .i64 11, .int .i64 0, .int .i64 0] 57)).alloc (.cells #[.slice (some ⟨n, 0, none⟩) 1 1] 36)).alloc (.cells #[.int .i64 0, .int .i64 1, .int .i64 0] 59)) (.slice (some ⟨n + 1, 0, none⟩) 1 1) (.slice (some ⟨n + 2, 0, none⟩) 1 1) (.slice none 0 0) failP := by
  subst hn
  refine ⟨Or.inr ⟨_, 0, 1, rfl, Nat.le_refl _, by simp, fun i c hi => ?_⟩, Or.inr ⟨_, 0, 1, rfl, Nat.le_refl _, by simp, fun i s hi => ?_⟩, Or.inl ⟨rfl, _, _, rfl⟩⟩
  · match i, hi with
    | 0, hi =>
      simp [failP] at hi
      subst hi
      refine ⟨.slice (some ⟨W.heap.size, 0, none⟩) 1 1, by simp [go_sem], Or.inr ⟨W.heap.size, 0, 1, rfl, by simp; omega, fun j o ho => ?_⟩⟩
      match j, ho with
      | 0, ho => simp at ho; subst ho; simp [go_sem]
      | j + 1, ho => simp at ho
    | i + 1, hi => simp [failP] at hi
  · match i, hi with
    | 0, hi => simp [failP] at hi; subst hi; simp [go_sem]
    | i + 1, hi => simp [failP] at hi
/-- A kernel with rules, one without, and one with rules of the plan without those that cannot tell. -/
structure C3 {G : World → Prop} (CC : CarC G) (CK : KerC G) (w1 wr : World) (p q : PD) (vc vs vw : Value) (what : List Int) (most : Int) (d : CD) (k : KD) (e : CD) (cb kb eb : Nat) (F H J : List Nat) : Prop where
  c : CC.K w1 wr p what most d cb F
  k : CK.K w1 wr p vc vs vw k kb H
  e : CC.K w1 wr q what most e eb J
  a1 : ∀ g ∈ F, g ∉ H
  a2 : ∀ g ∈ F, g ∉ J
  a3 : ∀ g ∈ H, g ∉ J
section
variable {G : World → Prop} {CC : CarC G} {CK : KerC G} {w1 wr w' : World} {p q : PD} {vc vs vw : Value} {what : List Int} {most : Int} {d : CD} {k : KD} {e : CD} {cb kb eb : Nat} {F H J : List Nat}
theorem C3.all (h : C3 CC CK w1 wr p q vc vs vw what most d k e cb kb eb F H J) (hb : Below wr.heap.size wr w') : C3 CC CK w1 w' p q vc vs vw what most d k e cb kb eb F H J :=
  ⟨CC.frame h.c (KTouch.of (M := []) hb) (by simp), CK.frame h.k (KTouch.of (M := []) hb) (by simp), CC.frame h.e (KTouch.of (M := []) hb) (by simp), h.a1, h.a2, h.a3⟩
/-- All three go on by a tick; in between the caller lays memory of its own. -/
theorem c3_tick (hG : G w1) (hcp : carE p what most = 0) (hcq : carE q what most = 0) (hd : COk p what most d) (hk : KOk p k) (he : COk q what most e) (t1 : d.k.time < 1000000) (t2 : k.time < 1000000) (t3 : e.k.time < 1000000) (h : C3 CC CK w1 wr p q vc vs vw what most d k e cb kb eb F H J) :
    Calls Tryd.prog 14 #[.pointer (some ⟨cb, 0, none⟩)] wr fun r w2 => r = .returned (evA (evC p what most d)) ∧ KTouch F wr w2 ∧ ∀ w3, Below w2.heap.size w2 w3 →
      Calls Tryd.prog 18 #[.pointer (some ⟨kb, 0, none⟩)] w3 fun r w4 => r = .returned (evA (tickK p p.spans k).2) ∧ KTouch H w3 w4 ∧ ∀ w5, Below w4.heap.size w4 w5 →
        Calls Tryd.prog 14 #[.pointer (some ⟨eb, 0, none⟩)] w5 fun r w' => (∃ a b c x, r = .returned (.agg #[.int .i64 a, .int .i64 b, .int .i64 c, .int .i64 x])) ∧ KTouch J w5 w' ∧ ∃ F' H' J', C3 CC CK w1 w' p q vc vs vw what most (tickC p what most d) (tickK p p.spans k).1 (tickC q what most e) cb kb eb F' H' J' := by
  have hp := (carE_zero hcp).1
  refine (CC.tick hG h.c hcp hd t1).mono ?_
  rintro r w2 ⟨rfl, F', hc2, tk2, hF'⟩
  have s2 := tk2.size
  have hk2 := CK.frame h.k tk2 (fun m hm => ⟨h.a1 m hm, (CC.ge h.c m hm).1⟩)
  have he2 := CC.frame h.e tk2 (fun m hm => ⟨h.a2 m hm, (CC.ge h.c m hm).1⟩)
  have b1 : ∀ g ∈ F', g ∉ H := fun g hg hm => by
    rcases hF' g hg with h1 | h1
    · exact h.a1 g h1 hm
    · have := (CK.ge h.k g hm).2
      omega
  have b2 : ∀ g ∈ F', g ∉ J := fun g hg hm => by
    rcases hF' g hg with h1 | h1
    · exact h.a2 g h1 hm
    · have := (CC.ge h.e g hm).2
      omega
  refine ⟨rfl, tk2, fun w3 hb3 => ?_⟩
  have s3 := hb3.size
  have hc3 := CC.frame hc2 (KTouch.of (M := []) hb3) (by simp)
  have hk3 := CK.frame hk2 (KTouch.of (M := []) hb3) (by simp)
  have he3 := CC.frame he2 (KTouch.of (M := []) hb3) (by simp)
  refine (CK.tick hG hk3 hp hk t2).mono ?_
  rintro r w4 ⟨rfl, H', hk4, tk4, hH'⟩
  have s4 := tk4.size
  have hc4 := CC.frame hc3 tk4 (fun m hm => ⟨fun e => b1 m e hm, (CK.ge hk3 m hm).1⟩)
  have he4 := CC.frame he3 tk4 (fun m hm => ⟨h.a3 m hm, (CK.ge hk3 m hm).1⟩)
  have b1' : ∀ g ∈ F', g ∉ H' := fun g hg hm => by
    rcases hH' g hm with h1 | h1
    · exact b1 g hg h1
    · have := (CC.ge hc3 g hg).2
      omega
  have b3 : ∀ g ∈ H', g ∉ J := fun g hg hm => by
    rcases hH' g hg with h1 | h1
    · exact h.a3 g h1 hm
    · have := (CC.ge he3 g hm).2
      omega
  refine ⟨rfl, tk4, fun w5 hb5 => ?_⟩
  have s5 := hb5.size
  have hc5 := CC.frame hc4 (KTouch.of (M := []) hb5) (by simp)
  have hk5 := CK.frame hk4 (KTouch.of (M := []) hb5) (by simp)
  have he5 := CC.frame he4 (KTouch.of (M := []) hb5) (by simp)
  refine (CC.tick hG he5 hcq he t3).mono ?_
  rintro r w' ⟨rfl, J', he6, tk6, hJ'⟩
  refine ⟨⟨_, _, _, _, rfl⟩, tk6, F', H', J', CC.frame hc5 tk6 (fun m hm => ⟨fun e => b2 m e hm, (CC.ge he5 m hm).1⟩), CK.frame hk5 tk6 (fun m hm => ⟨fun e => b3 m e hm, (CC.ge he5 m hm).1⟩), he6, b1', fun g hg hm => ?_, fun g hg hm => ?_⟩
  · rcases hJ' g hm with h1 | h1
    · exact b2 g hg h1
    · have := (CC.ge hc5 g hg).2
      omega
  · rcases hJ' g hm with h1 | h1
    · exact b3 g hg h1
    · have := (CK.ge hk5 g hg).2
      omega
end
/-- What the loop keeps, plain. -/
structure CInv (p : PD) (what : List Int) (most : Int) (r : Nat) (d : CD) (k : KD) (e : CD) (b : Bool) : Prop where
  dok : COk p what most d
  kok : KOk p k
  eok : COk (purgeP p (fun i => way p.wires i r)) what most e
  sim : SimC p.wires (fun i => way p.wires i r) d e
  time : d.k.time = k.time
  nf : b = false → NoneF d.k ∧ d.k = k
theorem purge_carE {p : PD} {what : List Int} {most : Int} (R : Nat → Bool) (h : carE p what most = 0) : carE (purgeP p R) what most = 0 := by
  obtain ⟨h1, h2, h3, h4, h5⟩ := carE_zero h
  have hr := purge_right R h1
  have hl : what.length = (purgeP p R).code.length := by
    show what.length = (purgeC R 0 p.code).length
    rw [purgeC_len]
    exact h2
  have ha : what.any ruleOut = false := by
    rw [List.any_eq_false]
    intro n hn
    have := h3 n hn
    unfold ruleOut
    simp
    omega
  unfold carE
  rw [if_pos hr, if_pos hl, if_neg (by rw [ha]; decide), if_neg (by omega)]
theorem cinv_new {p : PD} {what : List Int} {most : Int} (r : Nat) (h : carE p what most = 0) : CInv p what most r (newC p) (newK p) (newC (purgeP p (fun i => way p.wires i r))) false :=
  ⟨newC_ok h, new_ok (carE_zero h).1, newC_ok (purge_carE _ h), simC_new _ _, rfl, fun _ => ⟨none_new p, rfl⟩⟩
/-- One tick of all three. -/
theorem cinv_tick {p : PD} {what : List Int} {most : Int} {r : Nat} {d : CD} {k : KD} {e : CD} {b : Bool} (hc : carE p what most = 0) (h : CInv p what most r d k e b) :
    CInv p what most r (tickC p what most d) (tickK p p.spans k).1 (tickC (purgeP p (fun i => way p.wires i r)) what most e) (b || decide ((evC p what most d).2.2.2 = 4)) ∧ ((b || decide ((evC p what most d).2.2.2 = 4)) = false → evC p what most d = (tickK p p.spans k).2) := by
  have hp := (carE_zero hc).1
  have hrange : ∀ x ∈ p.wires, 0 ≤ x.1 ∧ x.1 < 5 ∧ 0 ≤ x.2.1 ∧ x.2.1 < 5 := fun x hx => by
    have h1 := (wschk_ok (plchk_zero hp).2.2.2.1).2 x hx
    unfold w4chk wchk at h1
    split at h1
    · rename_i h2
      omega
    · cases h1
  have key : ∀ hb : (b || decide ((evC p what most d).2.2.2 = 4)) = false, helpC p what most d = d ∧ d.k = k ∧ NoneF d.k ∧ (evC p what most d).2.2.2 ≠ 4 := fun hb => by
    rw [Bool.or_eq_false_iff] at hb
    obtain ⟨h1, h2⟩ := h.nf hb.1
    exact ⟨none_help h1, h2, h1, of_decide_eq_false hb.2⟩
  refine ⟨⟨tickC_ok hp h.dok, tick_ok hp h.kok, tickC_ok (purge_right _ hp) h.eok, simC_tick hp h.dok h.eok (way_closed p.wires r (fun x hx b hb => by have := hrange x hx; omega)) (fun x hx => (hrange x hx).1) h.sim, ?_, fun hb => ?_⟩, fun hb => ?_⟩
  · show (tickK p p.spans (helpC p what most d).k).1.time = _
    rw [tick_time, tick_time, help_time, h.time]
  · obtain ⟨h1, h2, h3, h4⟩ := key hb
    have e1 : (tickC p what most d).k = (tickK p p.spans k).1 := by
      show (tickK p p.spans (helpC p what most d).k).1 = _
      rw [h1, h2]
    refine ⟨?_, e1⟩
    rw [e1]
    rw [h2] at h3
    refine none_tick hp h.kok h3 ?_
    unfold evC at h4
    rw [h1, h2] at h4
    exact h4
  · obtain ⟨h1, h2, _, _⟩ := key hb
    unfold evC
    rw [h1, h2]
theorem cinv_room {p : PD} {what : List Int} {most : Int} {r : Nat} {d : CD} {k : KD} {e : CD} {b : Bool} (h : CInv p what most r d k e b) (hr : r < p.code.length) : noRoom d.k r = false ∧ noRoom e.k r = false ∧ roomK e.k r = roomK d.k r ∧ timesC e r = timesC d r := by
  have hR : way p.wires r r = true := way_self _ _
  have n1 : noRoom d.k r = false := by
    unfold noRoom
    rw [h.dok.k.rl, Bool.or_eq_false_iff]
    exact ⟨decide_eq_false (by omega), decide_eq_false (by omega)⟩
  have n2 : noRoom e.k r = false := by
    unfold noRoom
    rw [h.eok.k.rl, Bool.or_eq_false_iff]
    have : (purgeP p (fun i => way p.wires i r)).code.length = p.code.length := purgeC_len _ _ _
    rw [this]
    exact ⟨decide_eq_false (by omega), decide_eq_false (by omega)⟩
  refine ⟨n1, n2, ?_, ?_⟩
  · unfold roomK
    rw [n1, n2, if_neg (by decide), if_neg (by decide), Int.toNat_natCast, List.getD, List.getD, h.sim.k.rooms r hR]
  · unfold timesC
    rw [n1, n2, if_neg (by decide), if_neg (by decide), Int.toNat_natCast, List.getD, List.getD, h.sim.ts r hR]
end Go.Proofs.YteoemcekkcnplafDoor
namespace Go.Proofs.YteoemcekkcnplafDoor
open Go.RowKit

theorem fieldsEv : Tryd.prog.underlying 45 = some (.struct (Tryd.prog.fieldsOf 45)) := by kernel_rfl
theorem stoodEv : Tryd.prog.stoodInHeld 45 = false := by kernel_rfl
theorem fieldsEvIs : Tryd.prog.fieldsOf 45 = #[{ name := "Tick", type := 3, offset := 0, embedded := false, tag := "", pkgPath := "", byteOffset := 0 }, { name := "Room", type := 3, offset := 1, embedded := false, tag := "", pkgPath := "", byteOffset := 8 }, { name := "At", type := 3, offset := 2, embedded := false, tag := "", pkgPath := "", byteOffset := 16 }, { name := "What", type := 3, offset := 3, embedded := false, tag := "", pkgPath := "", byteOffset := 24 }] := by kernel_rfl
theorem eqIn_ev (a b c d : Int) (w : World) : (Op.equalIn 10000 45 (.agg #[.int .i64 a, .int .i64 b, .int .i64 c, .int .i64 d]) (.agg #[.int .i64 a, .int .i64 b, .int .i64 c, .int .i64 d])).run Tryd.prog w = .ok true w := by
  rw [run_equalIn_agg _ _ _ _ _ fieldsEv stoodEv, fieldsEvIs]
  simp [go_sem, Tryd.underlying3]
theorem eql_ev (a b c d : Int) (w : World) : (binOp .eql 45 (.agg #[.int .i64 a, .int .i64 b, .int .i64 c, .int .i64 d]) (.agg #[.int .i64 a, .int .i64 b, .int .i64 c, .int .i64 d])).run Tryd.prog w = .ok (.bool true) w := by
  rw [run_eql_struct, eqIn_ev]
  rfl
theorem neq_ev (a b c d : Int) (w : World) : (binOp .neq 45 (.agg #[.int .i64 a, .int .i64 b, .int .i64 c, .int .i64 d]) (.agg #[.int .i64 a, .int .i64 b, .int .i64 c, .int .i64 d])).run Tryd.prog w = .ok (.bool false) w := by
  rw [run_neq_struct, eqIn_ev]
  rfl
theorem guardEv : Tryd.prog.eqGuardType Tryd.prog.depth 45 = false := by kernel_rfl
end Go.Proofs.YteoemcekkcnplafDoor
namespace Go.Proofs.YteoemcekkcnplafDoor
open Go.RowKit

/-- Five in a block. -/
def Rw (w : World) (b : Nat) (M : Nat → Bool) : Prop := ∀ k, k < 5 → w.cell? ⟨b, k, none⟩ = some (.bool (M k)) ∧ w.frozen? ⟨b, k, none⟩ = false
/-- Five as a value. -/
def rwV (M : Nat → Bool) : Value := .agg #[.bool (M 0), .bool (M 1), .bool (M 2), .bool (M 3), .bool (M 4)]
def upto (k : Nat) (A B : Nat → Bool) : Nat → Bool := fun x => if x < k then (A x || B x) else A x
theorem upto_here (k : Nat) (A B : Nat → Bool) : upto k A B k = A k := by simp [upto]
theorem upto_zero (A B : Nat → Bool) : upto 0 A B = A := by funext x; simp [upto]
theorem upto_five (A B : Nat → Bool) {x : Nat} (h : x < 5) : upto 5 A B x = (A x || B x) := by simp [upto, h]
theorem Rw.set {w : World} {b : Nat} {M N : Nat → Bool} (h : Rw w b M) {k : Nat} {c : Bool} (hk : k < 5) (hc : N k = c) (hn : ∀ x, x ≠ k → N x = M x) : Rw (w.setCell ⟨b, k, none⟩ (.bool c)) b N := fun x hx => by
  obtain ⟨h1, h2⟩ := h x hx
  refine ⟨?_, (World.frozen?_setCell _ _ _ _).trans h2⟩
  by_cases he : x = k
  · subst he
    rw [hc]
    simp [go_sem, h1]
  · rw [hn x he, World.cell?_setCell_other _ _ _ _ (by intro e; injection e with _ e2; exact he e2.symm)]
    exact h1
theorem Rw.next {w : World} {b : Nat} {A B : Nat → Bool} {k : Nat} (h : Rw w b (upto k A B)) (hk : k < 5) {c : Bool} (hc : c = (A k || B k)) : Rw (w.setCell ⟨b, k, none⟩ (.bool c)) b (upto (k + 1) A B) :=
  h.set hk (by simp [upto, hc]) (fun x hx => by unfold upto; by_cases h1 : x < k; rw [if_pos (by omega), if_pos h1]; rw [if_neg (by omega), if_neg h1])
theorem Rw.apart {w : World} {b c : Nat} {M : Nat → Bool} (h : Rw w b M) (hne : b ≠ c) (i : Nat) (u : Value) : Rw (w.setCell ⟨c, i, none⟩ u) b M := fun x hx =>
  ⟨(World.cell?_of_block (w := w) (a := ⟨b, x, none⟩) (Below.heap_setCell _ _ _ _ hne)).trans (h x hx).1, (World.frozen?_setCell _ _ _ _).trans (h x hx).2⟩
theorem Rw.new (w : World) (M : Nat → Bool) (t : TypeId) : Rw (w.alloc (.cells #[.bool (M 0), .bool (M 1), .bool (M 2), .bool (M 3), .bool (M 4)] t)) w.heap.size M := by
  refine five ?_ ?_ ?_ ?_ ?_ <;> simp
theorem Rw.new_at {w : World} {b : Nat} (hb : b = w.heap.size) (M : Nat → Bool) (t : TypeId) : Rw (w.alloc (.cells #[.bool (M 0), .bool (M 1), .bool (M 2), .bool (M 3), .bool (M 4)] t)) b M := by
  subst hb
  exact Rw.new w M t
theorem Rw.alloc {w : World} {b : Nat} {M : Nat → Bool} (h : Rw w b M) (hb : b < w.heap.size) (o : Obj) : Rw (w.alloc o) b M := fun x hx => by
  have hB : Below w.heap.size w (w.alloc o) := (Below.refl _ _).alloc (Nat.le_refl _) _
  exact ⟨(hB.cell (p := ⟨b, _, none⟩) hb).trans (h x hx).1, (hB.frozen (p := ⟨b, _, none⟩) hb).trans (h x hx).2⟩
set_option maxRecDepth 100000 in
theorem index_row (M : Nat → Bool) : ∀ (k : Nat), k < 5 → ∀ w : World, (Instr.index 128 (.agg #[.bool (M 0), .bool (M 1), .bool (M 2), .bool (M 3), .bool (M 4)]) (.int .i64 (k : Int))).run Tryd.prog w = .ok (.bool (M k)) w := by
  refine five ?_ ?_ ?_ ?_ ?_ <;> exact fun _ => by kernel_rfl

set_option maxRecDepth 100000 in
set_option maxHeartbeats 4000000 in
theorem either_any (A B : Nat → Bool) (w : World) :
    Calls Tryd.prog 80 #[rwV A, rwV B] w fun e w' => e = .returned (rwV fun x => A x || B x) ∧ Below w.heap.size w w' := by
  unfold rwV
  go_enter Tryd.func80, Tryd.ntmps80
  go_wp2
  go_loopw [8] (fun i wr => ∃ k : Nat, k ≤ 5 ∧ i = .int .i64 k ∧ Rw wr w.heap.size (upto k A B) ∧ Rw wr (w.heap.size + 2) (fun _ => false) ∧ Below w.heap.size w wr ∧ w.heap.size + 3 ≤ wr.heap.size) (fun i _ => 5 - (intOf i).toNat)
  case atStart =>
    refine ⟨0, Nat.zero_le _, rfl, ?_, ?_, (((Below.refl _ _).alloc (Nat.le_refl _) _).alloc (by simp) _).alloc (by simp; omega) _, by simp⟩
    · rw [upto_zero]
      exact ((Rw.new w A 128).alloc (by simp) _).alloc (by simp; omega) _
    · exact Rw.new_at (by simp) (fun _ => false) 128
  case round =>
    obtain ⟨k, hk, rfl, hM, hZ, hB, hsz⟩ := hrel
    have HM : Hid (Rw wr w.heap.size (upto k A B)) := hM
    have HZ : Hid (Rw wr (w.heap.size + 2) (fun _ => false)) := hZ
    clear hM hZ
    by_cases hk5 : k < 5
    · have hki : (k : Int) < 5 := by omega
      have hix := index_row B k hk5
      obtain ⟨c, f⟩ := HM.out k hk5
      rw [upto_here] at c
      have hA : A k = true ∨ A k = false := by cases A k <;> simp
      rcases hA with hA | hA
      · rw [hA] at c
        have HC : Hid (true = (A k || B k)) := by show _ = _; rw [hA]; rfl
        clear hA
        go_wp2
        go_roundw
        case rel => exact ⟨k + 1, by omega, by go_num, HM.out.next hk5 HC.out, HZ.out.apart (by omega) _ _, hB.setCell (p := ⟨w.heap.size, _, none⟩) (Nat.le_refl _) _, by simpa using hsz⟩
        case measure => simp [intOf]; omega
      · rw [hA] at c
        have HC : Hid (B k = (A k || B k)) := by show _ = _; rw [hA]; rfl
        clear hA
        go_wp2
        go_roundw
        case rel => exact ⟨k + 1, by omega, by go_num, HM.out.next hk5 HC.out, HZ.out.apart (by omega) _ _, hB.setCell (p := ⟨w.heap.size, _, none⟩) (Nat.le_refl _) _, by simpa using hsz⟩
        case measure => simp [intOf]; omega
    · obtain rfl : k = 5 := by omega
      obtain ⟨c0, _⟩ := HM.out 0 (by omega)
      obtain ⟨c1, _⟩ := HM.out 1 (by omega)
      obtain ⟨c2, _⟩ := HM.out 2 (by omega)
      obtain ⟨c3, _⟩ := HM.out 3 (by omega)
      obtain ⟨c4, _⟩ := HM.out 4 (by omega)
      rw [upto_five _ _ (by omega)] at c0 c1 c2 c3 c4
      obtain ⟨d0, f0⟩ := HZ.out 0 (by omega)
      obtain ⟨d1, f1⟩ := HZ.out 1 (by omega)
      obtain ⟨d2, f2⟩ := HZ.out 2 (by omega)
      obtain ⟨d3, f3⟩ := HZ.out 3 (by omega)
      obtain ⟨d4, f4⟩ := HZ.out 4 (by omega)
      clear HM HZ
      go_wp2
      refine bodyPost_ret (v := .agg #[.bool (A 0 || B 0), .bool (A 1 || B 1), .bool (A 2 || B 2), .bool (A 3 || B 3), .bool (A 4 || B 4)]) ?_ rfl ⟨rfl, ?_⟩
      · simp [results, Tryd.results80, go_sem, d0, d1, d2, d3, d4]
      exact ((((hB.setCell (p := ⟨w.heap.size + 2, _, none⟩) (by simp) _).setCell (p := ⟨w.heap.size + 2, _, none⟩) (by simp) _).setCell (p := ⟨w.heap.size + 2, _, none⟩) (by simp) _).setCell (p := ⟨w.heap.size + 2, _, none⟩) (by simp) _).setCell (p := ⟨w.heap.size + 2, _, none⟩) (by simp) _
end Go.Proofs.YteoemcekkcnplafDoor
namespace Go.Proofs.YteoemcekkcnplafDoor
open Go.RowKit

theorem Ops.block {w w' : World} {v : Value} {l : List O3} (h : Ops w v l) (hb : ∀ k, k < w.heap.size → v.ownBlock = some k → w'.heap[k]? = w.heap[k]?) (hs : w.heap.size ≤ w'.heap.size) : Ops w' v l := by
  rcases h with h | ⟨b, off, cap, rfl, hlt, hc⟩
  · exact Or.inl h
  · have hk := hb b hlt rfl
    refine Or.inr ⟨b, off, cap, rfl, by omega, fun i o ho => ?_⟩
    obtain ⟨h0, h1, h2⟩ := hc i o ho
    exact ⟨(World.cell?_of_block (w := w) (a := ⟨b, _, none⟩) hk).trans h0, (World.cell?_of_block (w := w) (a := ⟨b, _, none⟩) hk).trans h1, (World.cell?_of_block (w := w) (a := ⟨b, _, none⟩) hk).trans h2⟩
theorem Ops.lt {w : World} {v : Value} {l : List O3} (h : Ops w v l) (hl : l ≠ []) : ∀ g, v.ownBlock = some g → g < w.heap.size := fun g hg => by
  rcases h with ⟨rfl, _⟩ | ⟨b, off, cap, rfl, hlt, _⟩
  · exact absurd rfl hl
  · simp only [Value.ownBlock, Option.some.injEq] at hg
    omega
end Go.Proofs.YteoemcekkcnplafDoor
namespace Go.Proofs.YteoemcekkcnplafDoor
open Go.RowKit

/-- The plan is being made: codes so far. -/
structure QP (b0 : Nat) (w1 W : World) (p : PD) (R : Nat → Bool) (kb : Nat) (vs vw cv : Value) (us : List Value) : Prop where
  tk : KTouch [kb] w1 W
  kl : kb < w1.heap.size
  k0 : b0 ≤ kb
  blk : W.heap[kb]? = some (.cells #[cv, .int .i64 p.ticks, vs, vw] 26 (0, 0))
  own : W.ownsRow w1.heap.size 36 1 cv us.length us
  ops : ∀ (i : Nat) u c, us[i]? = some u → p.code[i]? = some c → Ops W u (if R i = true then c else restC)
  ap : ∀ u ∈ us, ∀ g, u.ownBlock = some g → (g < b0 ∨ w1.heap.size ≤ g) ∧ g < W.heap.size ∧ cv.ownBlock ≠ some g
  len : us.length ≤ p.code.length
theorem QP.cs {b0 : Nat} {w1 W : World} {p : PD} {R : Nat → Bool} {kb : Nat} {vs vw cv : Value} {us : List Value} (h : QP b0 w1 W p R kb vs vw cv us) : W.cell? ⟨kb, 0, none⟩ = some cv ∧ W.cell? ⟨kb, 1, none⟩ = some (.int .i64 p.ticks) ∧ W.cell? ⟨kb, 2, none⟩ = some vs ∧ W.cell? ⟨kb, 3, none⟩ = some vw ∧ W.frozen? ⟨kb, 0, none⟩ = false := by
  have e := h.blk
  simp [World.cell?, World.frozen?, e]
/-- One code more: one of the plan's, or one that rests. -/
theorem QP.more {b0 : Nat} {w1 W w2 wa : World} {p : PD} {R : Nat → Bool} {kb : Nat} {vs vw cv cv' u : Value} {us : List Value} {c : List O3} (h : QP b0 w1 W p R kb vs vw cv us) (hc : p.code[us.length]? = some c) (b2 : Below W.heap.size W w2) (hu : Ops w2 u (if R us.length = true then c else restC))
    (hua : ∀ g, u.ownBlock = some g → (g < b0 ∨ W.heap.size ≤ g) ∧ g < w2.heap.size)
    (hg : (w2.alloc (.cells #[u] 36)).grownBy wa cv.ownBlock) (hown : wa.ownsRow w1.heap.size 36 1 cv' (us.length + 1) (us ++ [u])) (hnew : ∀ g, cv'.ownBlock = some g → cv.ownBlock = some g ∨ w2.heap.size + 1 ≤ g) : QP b0 w1 (wa.setCell ⟨kb, 0, none⟩ cv') p R kb vs vw cv' (us ++ [u]) := by
  have b3 : Below W.heap.size W (w2.alloc (.cells #[u] 36)) := b2.alloc b2.size _
  have hs3 : (w2.alloc (.cells #[u] 36)).heap.size = w2.heap.size + 1 := by simp
  have hs := h.tk.size
  have hs2 := b2.size
  have hga := hg.size
  rw [hs3] at hga
  have hkl := h.kl
  have hk0 := h.k0
  have hcr : ∀ k, cv.ownBlock = some k → w1.heap.size ≤ k ∧ k < W.heap.size := fun k hk => h.own.lt k hk
  have hset : ∀ k, k ≠ kb → (wa.setCell ⟨kb, 0, none⟩ cv').heap[k]? = wa.heap[k]? := fun k hk => Below.heap_setCell _ _ _ _ hk
  have hsz2 : (wa.setCell ⟨kb, 0, none⟩ cv').heap.size = wa.heap.size := by simp
  have hold : ∀ k, k < w2.heap.size → k ≠ kb → cv.ownBlock ≠ some k → (wa.setCell ⟨kb, 0, none⟩ cv').heap[k]? = w2.heap[k]? := fun k h2 h3 h4 => (hset k h3).trans ((hg.block k (by rw [hs3]; omega) (fun e => h4 e.symm)).trans (((Below.refl _ w2).alloc (Nat.le_refl _) _).block k h2))
  have hune : ∀ g, u.ownBlock = some g → g ≠ kb ∧ cv.ownBlock ≠ some g := fun g hg' => by
    obtain ⟨h1, _⟩ := hua g hg'
    refine ⟨by omega, fun e => ?_⟩
    have := hcr g e
    omega
  refine ⟨⟨(hg.os.trans (b3.os.trans h.tk.os)), (hg.tape.trans (b3.tape.trans h.tk.tape)), (hg.output.trans (b3.output.trans h.tk.output)), by omega, fun k hk hm => ?_⟩, h.kl, h.k0, ?_, ?_, fun i x d hx hd => ?_, fun x hx g hgx => ?_, ?_⟩
  · have hkk : k ≠ kb := fun e => hm (by simp [e])
    refine (hset k hkk).trans ((hg.block k (by rw [hs3]; omega) (fun e => ?_)).trans ((b3.block k (by omega)).trans (h.tk.block k hk hm)))
    have := (hcr k e.symm).1
    omega
  · have hlt : kb < W.heap.size := by omega
    have e : wa.heap[kb]? = some (.cells #[cv, .int .i64 p.ticks, vs, vw] 26 (0, 0)) := (hg.block kb (by rw [hs3]; omega) (fun e => by have := (hcr kb e.symm).1; omega)).trans ((b3.block kb hlt).trans h.blk)
    simp [World.setCell, Array.getElem?_modify, e]
  · rw [List.length_append]
    exact ownsRow_setCell_below hown (a := ⟨kb, 0, none⟩) h.kl cv'
  · by_cases hi : i < us.length
    · rw [List.getElem?_append_left hi] at hx
      have ho := h.ops i x d hx hd
      refine (ho.all b2).block (fun k hk he => ?_) (by omega)
      obtain ⟨h1, h2, h3⟩ := h.ap x (List.mem_of_getElem? hx) k he
      exact hold k hk (by omega) h3
    · have hlt := (List.getElem?_eq_some_iff.1 hx).1
      rw [List.length_append, List.length_singleton] at hlt
      obtain rfl : i = us.length := by omega
      rw [List.getElem?_append_right (Nat.le_refl _), Nat.sub_self] at hx
      simp only [List.getElem?_cons_zero, Option.some.injEq] at hx
      subst hx
      rw [hc] at hd
      obtain rfl := Option.some.inj hd
      exact hu.block (fun k hk he => hold k hk (hune k he).1 (hune k he).2) (by omega)
  · rcases List.mem_append.1 hx with h1 | h1
    · obtain ⟨h2, h3, h4⟩ := h.ap x h1 g hgx
      refine ⟨h2, by omega, fun e => ?_⟩
      rcases hnew g e with h5 | h5
      · exact h4 h5
      · omega
    · rw [List.mem_singleton] at h1
      subst h1
      obtain ⟨h2, h3⟩ := hua g hgx
      refine ⟨by omega, by omega, fun e => ?_⟩
      rcases hnew g e with h5 | h5
      · exact (hune g hgx).2 h5
      · omega
  · rw [List.length_append, List.length_singleton]
    exact (List.getElem?_eq_some_iff.1 hc).1
/-- All of them, read elsewhere than in two blocks of the caller's. -/
theorem QP.cds {b0 : Nat} {w1 W W' : World} {p : PD} {R : Nat → Bool} {kb : Nat} {vs vw cv : Value} {us : List Value} (h : QP b0 w1 W p R kb vs vw cv us) (hl : us.length = p.code.length) {M : List Nat} (ht : KTouch M W W') (hM : ∀ m ∈ M, b0 ≤ m ∧ m < w1.heap.size) : Cds W' cv (purgeC R 0 p.code) := by
  have hrl := h.own.lt
  have hcs := @World.ownsRow.cells _ _ _ _ _ _ _ h.own
  have hlen : (purgeC R 0 p.code).length = us.length := by rw [purgeC_len, hl]
  rcases h.own.2 with ⟨rfl, h0⟩ | ⟨g, cap, cur, rfl, hge, _, hcap, _⟩
  · exact Or.inl ⟨List.eq_nil_of_length_eq_zero (by rw [hlen]; exact h0), _, _, rfl⟩
  · refine Or.inr ⟨g, 0, cap, by rw [hlen], by rw [hlen]; exact hcap, Nat.lt_of_lt_of_le (hrl g rfl).2 ht.size, fun i d hd => ?_⟩
    rw [purgeC_at] at hd
    obtain ⟨c, hc, hcd⟩ := Option.map_eq_some_iff.1 hd
    have hil : i < us.length := by rw [hl]; exact (List.getElem?_eq_some_iff.1 hc).1
    have hu : us[i]? = some us[i] := List.getElem?_eq_getElem hil
    have hcell := hcs rfl i _ hu
    rw [Addr.add_lit] at hcell
    refine ⟨us[i], (World.cell?_of_block (w := W) (a := ⟨g, _, none⟩) (ht.block g (hrl g rfl).2 (fun hm => ?_))).trans hcell, ?_⟩
    · have := (hM g hm).2
      omega
    · rw [← hcd, Nat.zero_add]
      refine (h.ops i _ c hu hc).block (fun k hk he => ht.block k hk (fun hm => ?_)) ht.size
      obtain ⟨h1, _, _⟩ := h.ap _ (List.mem_of_getElem? hu) k he
      have := hM k hm
      omega
theorem rest_ops {w : World} {k : Nat} (hk : k = w.heap.size) : Ops (w.alloc (.cells #[.int .i64 10, .int .i64 0, .int .i64 0] 57)) (.slice (some ⟨k, 0, none⟩) 1 1) restC := by
  subst hk
  refine Or.inr ⟨w.heap.size, 0, 1, rfl, by simp, fun i o ho => ?_⟩
  match i, ho with
  | 0, ho => simp [restC] at ho; subst ho; simp [go_sem]
  | i + 1, ho => simp [restC] at ho
end Go.Proofs.YteoemcekkcnplafDoor
namespace Go.Proofs.YteoemcekkcnplafDoor
open Go.ChangeShapes Go.WideShapes Go.ChangeAt Go.WideElems Go.RowKit Go.Deep

theorem pk_spot {W : World} {a : Addr} {v : Value} (h : W.cell? a = some v) : a = ⟨a.block, a.off, none⟩ ∧ a.block < W.heap.size := by
  obtain ⟨b, o, s⟩ := a
  unfold World.cell? at h
  simp only at h
  cases hb : W.heap[b]? with
  | none => rw [hb] at h; cases h
  | some x =>
    rw [hb] at h
    refine ⟨?_, (Array.getElem?_eq_some_iff.1 hb).1⟩
    cases x <;> simp at h
    cases s with
    | none => rfl
    | some s => simp at h
theorem pk_lt {α : Type} [Inhabited α] {p : Nat → α → Prop} {n : Nat} (h : ∀ i, i < n → ∃ x, p i x) : ∃ f : Nat → α, ∀ i, i < n → p i (f i) := by
  refine ⟨fun i => if hi : i < n then (h i hi).choose else default, fun i hi => ?_⟩
  simp only [hi, dif_pos]
  exact (h i hi).choose_spec
/-- A slice read as data, at the level of its cell. -/
theorem pk_slice {α : Type} [Inhabited α] {H : Type} {enc : TypeId × Value → H} {P : Program} {W : World} {base : Nat} {sp : Nat → Bool} {held : Bool} {fuel : Nat} {cs : List Value} {x : DataW H × List MemPlace} {t e : TypeId} {k : Nat}
    (ht : P.underlying t = some (.slice e)) (hk : P.cellsOf e = k) (hk0 : 0 < k) (R : List Value → α → Prop)
    (hel : ∀ (n : Nat) (cs : List Value) (x : DataW H × List MemPlace), DataW.trod enc P W base sp held n e cs = some x → ∃ o, R cs o)
    (h : DataW.trod enc P W base sp held fuel t cs = some x) :
    ∃ a len cap, cs = [.slice a len cap] ∧ (len = 0 ∨ ∃ b off, a = some ⟨b, off, none⟩ ∧ len ≤ cap ∧ b < W.heap.size ∧ ∃ l : List α, l.length = len ∧ ∀ i o, l[i]? = some o → ∃ us, us.length = k ∧ R us o ∧ ∀ j, j < k → W.cell? ⟨b, off + i * k + j, none⟩ = us[j]?) := by
  rcases open_slice ht h with ⟨rfl, _⟩ | ⟨a, len, cap, m, n, D, Pl, rfl, _, hl, _, hm, _, he⟩
  · exact ⟨none, 0, 0, rfl, Or.inl rfl⟩
  · refine ⟨some a, len, cap, rfl, ?_⟩
    have hlm : len ≤ m := by rw [hm]; split <;> omega
    by_cases h0 : len = 0
    · exact Or.inl h0
    · rw [hk] at he
      obtain ⟨F, hF⟩ := pk_lt (α := α × List Value) (p := fun i o => o.2.length = k ∧ R o.2 o.1 ∧ ∀ j, j < k → W.cell? ((a.add (i * k)).add j) = o.2[j]?) (n := len) (fun i hi => by
        obtain ⟨us, h1, h2⟩ := he i (by omega)
        obtain ⟨o, ho⟩ := hel _ _ _ h2
        obtain ⟨_, h3, h4⟩ := World.cells?_some h1
        exact ⟨(o, us), h3, ho, h4⟩)
      obtain ⟨l0, _, c0⟩ := hF 0 (by omega)
      have hz := c0 0 hk0
      rw [show (a.add (0 * k)).add 0 = a from by simp [Addr.add], List.getElem?_eq_getElem (by omega)] at hz
      obtain ⟨ha, hlt⟩ := pk_spot hz
      refine Or.inr ⟨a.block, a.off, by rw [← ha], hl, hlt, (List.range len).map (fun i => (F i).1), by simp, fun i o ho => ?_⟩
      have hi : i < len := by
        have := (List.getElem?_eq_some_iff.1 ho).1
        simpa using this
      have hoi : (F i).1 = o := by simpa [hi] using ho
      obtain ⟨h1, h2, h3⟩ := hF i hi
      refine ⟨(F i).2, h1, hoi ▸ h2, fun j hj => ?_⟩
      have := h3 j hj
      rw [ha] at this
      simp only [Addr.add_lit] at this
      exact this
theorem pcInt : Tryd.prog.cellsOf 3 = 1 := by kernel_rfl
theorem pcOp : Tryd.prog.cellsOf 57 = 3 := by kernel_rfl
theorem pcSpan : Tryd.prog.cellsOf 59 = 3 := by kernel_rfl
theorem pcWire : Tryd.prog.cellsOf 76 = 4 := by kernel_rfl
theorem pcOps : Tryd.prog.cellsOf 36 = 1 := by kernel_rfl
section
variable {H : Type} {enc : TypeId × Value → H} {W : World} {base : Nat} {sp : Nat → Bool} {held : Bool}
set_option maxRecDepth 100000 in
theorem pk_op (n : Nat) (cs : List Value) (x : DataW H × List MemPlace) (h : DataW.trod enc Tryd.prog W base sp held n 57 cs = some x) : ∃ o : O3, cs = [.int .i64 o.1, .int .i64 o.2.1, .int .i64 o.2.2] := by
  obtain ⟨y0, y1, y2, n, _, hl, h0, h1, h2⟩ := trod_struct3 Tryd.underlying57 h
  rw [pcOp] at hl
  match cs, hl with
  | [c0, c1, c2], _ =>
    simp only [pcInt] at h0 h1 h2
    simp at h0 h1 h2
    obtain ⟨n, e0, _, _⟩ := DataW.trod_int Tryd.underlying3 h0
    obtain ⟨a, e1, _, _⟩ := DataW.trod_int Tryd.underlying3 h1
    obtain ⟨b, e2, _, _⟩ := DataW.trod_int Tryd.underlying3 h2
    simp only [List.cons.injEq, and_true] at e0 e1 e2
    subst e0; subst e1; subst e2
    exact ⟨(n, a, b), rfl⟩
set_option maxRecDepth 100000 in
theorem pk_span (n : Nat) (cs : List Value) (x : DataW H × List MemPlace) (h : DataW.trod enc Tryd.prog W base sp held n 59 cs = some x) : ∃ o : S3, cs = [.int .i64 o.1, .int .i64 o.2.1, .int .i64 o.2.2] := by
  obtain ⟨y0, y1, y2, n, _, hl, h0, h1, h2⟩ := trod_struct3 Tryd.underlying59 h
  rw [pcSpan] at hl
  match cs, hl with
  | [c0, c1, c2], _ =>
    simp only [pcInt] at h0 h1 h2
    simp at h0 h1 h2
    obtain ⟨n, e0, _, _⟩ := DataW.trod_int Tryd.underlying3 h0
    obtain ⟨a, e1, _, _⟩ := DataW.trod_int Tryd.underlying3 h1
    obtain ⟨b, e2, _, _⟩ := DataW.trod_int Tryd.underlying3 h2
    simp only [List.cons.injEq, and_true] at e0 e1 e2
    subst e0; subst e1; subst e2
    exact ⟨(n, a, b), rfl⟩
set_option maxRecDepth 100000 in
theorem pk_wire (n : Nat) (cs : List Value) (x : DataW H × List MemPlace) (h : DataW.trod enc Tryd.prog W base sp held n 76 cs = some x) : ∃ o : W4, cs = [.int .i64 o.1, .int .i64 o.2.1, .int .i64 o.2.2.1, .int .i64 o.2.2.2] := by
  obtain ⟨y0, y1, y2, y3, n, _, hl, h0, h1, h2, h3⟩ := Joins.trod_struct4 Tryd.underlying76 h
  rw [pcWire] at hl
  match cs, hl with
  | [c0, c1, c2, c3], _ =>
    simp only [pcInt] at h0 h1 h2 h3
    simp at h0 h1 h2 h3
    obtain ⟨n, e0, _, _⟩ := DataW.trod_int Tryd.underlying3 h0
    obtain ⟨a, e1, _, _⟩ := DataW.trod_int Tryd.underlying3 h1
    obtain ⟨b, e2, _, _⟩ := DataW.trod_int Tryd.underlying3 h2
    obtain ⟨c, e3, _, _⟩ := DataW.trod_int Tryd.underlying3 h3
    simp only [List.cons.injEq, and_true] at e0 e1 e2 e3
    subst e0; subst e1; subst e2; subst e3
    exact ⟨(n, a, b, c), rfl⟩
theorem pk_ops (n : Nat) (cs : List Value) (x : DataW H × List MemPlace) (h : DataW.trod enc Tryd.prog W base sp held n 36 cs = some x) : ∃ l : List O3, ∃ u, cs = [u] ∧ Ops W u l := by
  obtain ⟨a, len, cap, rfl, hr⟩ := pk_slice (α := O3) Tryd.underlying36 pcOp (by decide) (fun cs o => cs = [.int .i64 o.1, .int .i64 o.2.1, .int .i64 o.2.2]) pk_op h
  rcases hr with rfl | ⟨b, off, rfl, _, hlt, l, rfl, hl⟩
  · exact ⟨[], _, rfl, Or.inl ⟨rfl, _, _, rfl⟩⟩
  · refine ⟨l, _, rfl, Or.inr ⟨b, off, cap, rfl, hlt, fun i o ho => ?_⟩⟩
    obtain ⟨us, _, rfl, hc⟩ := hl i o ho
    exact ⟨hc 0 (by omega), hc 1 (by omega), hc 2 (by omega)⟩
theorem pk_sps (n : Nat) (cs : List Value) (x : DataW H × List MemPlace) (h : DataW.trod enc Tryd.prog W base sp held n 23 cs = some x) : ∃ l : List S3, ∃ u, cs = [u] ∧ Sps W u l := by
  obtain ⟨a, len, cap, rfl, hr⟩ := pk_slice (α := S3) Tryd.underlying23 pcSpan (by decide) (fun cs o => cs = [.int .i64 o.1, .int .i64 o.2.1, .int .i64 o.2.2]) pk_span h
  rcases hr with rfl | ⟨b, off, rfl, hcap, hlt, l, rfl, hl⟩
  · exact ⟨[], _, rfl, Or.inl ⟨rfl, _, _, rfl⟩⟩
  · refine ⟨l, _, rfl, Or.inr ⟨b, off, cap, rfl, hcap, hlt, fun i o ho => ?_⟩⟩
    obtain ⟨us, _, rfl, hc⟩ := hl i o ho
    exact ⟨hc 0 (by omega), hc 1 (by omega), hc 2 (by omega)⟩
theorem pk_wrs (n : Nat) (cs : List Value) (x : DataW H × List MemPlace) (h : DataW.trod enc Tryd.prog W base sp held n 24 cs = some x) : ∃ l : List W4, ∃ u, cs = [u] ∧ Wrs W u l := by
  obtain ⟨a, len, cap, rfl, hr⟩ := pk_slice (α := W4) Tryd.underlying24 pcWire (by decide) (fun cs o => cs = [.int .i64 o.1, .int .i64 o.2.1, .int .i64 o.2.2.1, .int .i64 o.2.2.2]) pk_wire h
  rcases hr with rfl | ⟨b, off, rfl, hcap, hlt, l, rfl, hl⟩
  · exact ⟨[], _, rfl, Or.inl ⟨rfl, _, _, rfl⟩⟩
  · refine ⟨l, _, rfl, Or.inr ⟨b, off, cap, rfl, hcap, hlt, fun i o ho => ?_⟩⟩
    obtain ⟨us, _, rfl, hc⟩ := hl i o ho
    exact ⟨hc 0 (by omega), hc 1 (by omega), hc 2 (by omega), hc 3 (by omega)⟩
theorem pk_cds (n : Nat) (cs : List Value) (x : DataW H × List MemPlace) (h : DataW.trod enc Tryd.prog W base sp held n 22 cs = some x) : ∃ l : List (List O3), ∃ u, cs = [u] ∧ Cds W u l := by
  obtain ⟨a, len, cap, rfl, hr⟩ := pk_slice (α := List O3) Tryd.underlying22 pcOps (by decide) (fun cs l => ∃ u, cs = [u] ∧ Ops W u l) pk_ops h
  rcases hr with rfl | ⟨b, off, rfl, hcap, hlt, l, rfl, hl⟩
  · exact ⟨[], _, rfl, Or.inl ⟨rfl, _, _, rfl⟩⟩
  · refine ⟨l, _, rfl, Or.inr ⟨b, off, cap, rfl, hcap, hlt, fun i c hc => ?_⟩⟩
    obtain ⟨us, _, ⟨u, rfl, hu⟩, hc⟩ := hl i c hc
    have := hc 0 (by omega)
    exact ⟨u, by simpa using this, hu⟩
set_option maxRecDepth 100000 in
/-- A plan that came in. -/
theorem open_plan {b0 : Nat} {r : Reach} {v : Value} {d : DataW H} {p : List MemPlace} (hv : Value.okWide Tryd.prog W r b0 26 v)
    (h : DataW.Trod enc Tryd.prog W base sp held 26 v d p) : ∃ (vc vs vw : Value) (p : PD), v = plV vc p.ticks vs vw ∧ Pln W vc vs vw p := by
  obtain ⟨v0, v1, v2, v3, y0, y1, y2, y3, m, rfl, _, _, h0, h1, h2, h3⟩ := Joins.open_agg4 Tryd.underlying26 (by kernel_rfl) (by kernel_rfl) hv h
  obtain ⟨cs, u0, e0, g0⟩ := pk_cds _ _ _ h0
  obtain ⟨n, e1, _, _⟩ := DataW.trod_int Tryd.underlying3 h1
  obtain ⟨ss, u2, e2, g2⟩ := pk_sps _ _ _ h2
  obtain ⟨ws, u3, e3, g3⟩ := pk_wrs _ _ _ h3
  simp only [List.cons.injEq, and_true] at e0 e1 e2 e3
  subst e0; subst e1; subst e2; subst e3
  exact ⟨_, _, _, ⟨cs, n, ss, ws⟩, rfl, g0, g2, g3⟩
end
end Go.Proofs.YteoemcekkcnplafDoor
namespace Go.Proofs.YteoemcekkcnplafDoor
open Go.ChangeShapes

theorem trodAll_four {H : Type} {enc : TypeId × Value → H} {P : Program} {w : World} {base : Nat} {spare : Nat → Bool} {held : Bool} {t0 t1 t2 t3 : TypeId} {args : Array Value} {ds : List (DataW H)} {ps : List MemPlace} (h : DataW.TrodAll enc P w base spare held [t0, t1, t2, t3] args.toList ds ps) :
    ∃ v0 v1 v2 v3 d0 d1 d2 d3 p0 p1 p2 p3, args = #[v0, v1, v2, v3] ∧ ds = [d0, d1, d2, d3] ∧ DataW.Trod enc P w base spare held t0 v0 d0 p0 ∧ DataW.Trod enc P w base spare held t1 v1 d1 p1 ∧ DataW.Trod enc P w base spare held t2 v2 d2 p2 ∧ DataW.Trod enc P w base spare held t3 v3 d3 p3 := by
  obtain ⟨v0, vs0, d0, ds0, p0, q0, hargs, rfl, rfl, h0, r0⟩ := trodAll_cons h
  obtain ⟨v1, vs1, d1, ds1, p1, q1, rfl, rfl, rfl, h1, r1⟩ := trodAll_cons r0
  obtain ⟨v2, vs2, d2, ds2, p2, q2, rfl, rfl, rfl, h2, r2⟩ := trodAll_cons r1
  obtain ⟨v3, vs3, d3, ds3, p3, q3, rfl, rfl, rfl, h3, r3⟩ := trodAll_cons r2
  obtain ⟨rfl, rfl, rfl⟩ := trodAll_nil r3
  exact ⟨v0, v1, v2, v3, d0, d1, d2, d3, p0, p1, p2, p3, by cases args; simp_all, rfl, h0, h1, h2, h3⟩
theorem trodAll_five {H : Type} {enc : TypeId × Value → H} {P : Program} {w : World} {base : Nat} {spare : Nat → Bool} {held : Bool} {t0 t1 t2 t3 t4 : TypeId} {args : Array Value} {ds : List (DataW H)} {ps : List MemPlace} (h : DataW.TrodAll enc P w base spare held [t0, t1, t2, t3, t4] args.toList ds ps) :
    ∃ v0 v1 v2 v3 v4 d0 d1 d2 d3 d4 p0 p1 p2 p3 p4, args = #[v0, v1, v2, v3, v4] ∧ ds = [d0, d1, d2, d3, d4] ∧ DataW.Trod enc P w base spare held t0 v0 d0 p0 ∧ DataW.Trod enc P w base spare held t1 v1 d1 p1 ∧ DataW.Trod enc P w base spare held t2 v2 d2 p2 ∧ DataW.Trod enc P w base spare held t3 v3 d3 p3 ∧ DataW.Trod enc P w base spare held t4 v4 d4 p4 := by
  obtain ⟨v0, vs0, d0, ds0, p0, q0, hargs, rfl, rfl, h0, r0⟩ := trodAll_cons h
  obtain ⟨v1, vs1, d1, ds1, p1, q1, rfl, rfl, rfl, h1, r1⟩ := trodAll_cons r0
  obtain ⟨v2, vs2, d2, ds2, p2, q2, rfl, rfl, rfl, h2, r2⟩ := trodAll_cons r1
  obtain ⟨v3, vs3, d3, ds3, p3, q3, rfl, rfl, rfl, h3, r3⟩ := trodAll_cons r2
  obtain ⟨v4, vs4, d4, ds4, p4, q4, rfl, rfl, rfl, h4, r4⟩ := trodAll_cons r3
  obtain ⟨rfl, rfl, rfl⟩ := trodAll_nil r4
  exact ⟨v0, v1, v2, v3, v4, d0, d1, d2, d3, d4, p0, p1, p2, p3, p4, by cases args; simp_all, rfl, h0, h1, h2, h3, h4⟩
theorem trodAll_six {H : Type} {enc : TypeId × Value → H} {P : Program} {w : World} {base : Nat} {spare : Nat → Bool} {held : Bool} {t0 t1 t2 t3 t4 t5 : TypeId} {args : Array Value} {ds : List (DataW H)} {ps : List MemPlace} (h : DataW.TrodAll enc P w base spare held [t0, t1, t2, t3, t4, t5] args.toList ds ps) :
    ∃ v0 v1 v2 v3 v4 v5 d0 d1 d2 d3 d4 d5 p0 p1 p2 p3 p4 p5, args = #[v0, v1, v2, v3, v4, v5] ∧ ds = [d0, d1, d2, d3, d4, d5] ∧ DataW.Trod enc P w base spare held t0 v0 d0 p0 ∧ DataW.Trod enc P w base spare held t1 v1 d1 p1 ∧ DataW.Trod enc P w base spare held t2 v2 d2 p2 ∧ DataW.Trod enc P w base spare held t3 v3 d3 p3 ∧ DataW.Trod enc P w base spare held t4 v4 d4 p4 ∧ DataW.Trod enc P w base spare held t5 v5 d5 p5 := by
  obtain ⟨v0, vs0, d0, ds0, p0, q0, hargs, rfl, rfl, h0, r0⟩ := trodAll_cons h
  obtain ⟨v1, vs1, d1, ds1, p1, q1, rfl, rfl, rfl, h1, r1⟩ := trodAll_cons r0
  obtain ⟨v2, vs2, d2, ds2, p2, q2, rfl, rfl, rfl, h2, r2⟩ := trodAll_cons r1
  obtain ⟨v3, vs3, d3, ds3, p3, q3, rfl, rfl, rfl, h3, r3⟩ := trodAll_cons r2
  obtain ⟨v4, vs4, d4, ds4, p4, q4, rfl, rfl, rfl, h4, r4⟩ := trodAll_cons r3
  obtain ⟨v5, vs5, d5, ds5, p5, q5, rfl, rfl, rfl, h5, r5⟩ := trodAll_cons r4
  obtain ⟨rfl, rfl, rfl⟩ := trodAll_nil r5
  exact ⟨v0, v1, v2, v3, v4, v5, d0, d1, d2, d3, d4, d5, p0, p1, p2, p3, p4, p5, by cases args; simp_all, rfl, h0, h1, h2, h3, h4, h5⟩
end Go.Proofs.YteoemcekkcnplafDoor
