/-
  LikeM, OpsL, PrgE, PrgCP, PrgC, PTells0, RLaid, RPurge, RPurge2, Same, SamePlan, StL, SgtCR: joined into one text.
-/
import Derived.Test.YtfconbblnmbnpaeGreatDoorJa2
import Derived.ProofKit
import Derived.LaidMore
import Derived.OpenShut
import Derived.Stop.Joined
import Derived.Stop.LaidErr
import Derived.Lib.LaidTab
import Derived.Test.YtfconbblnmbnpaeGreatDoorJa1
import Derived.RangeFuncRecord
import Derived.Deep.RegionLaw
import Derived.Deep.CutRange
import Derived.Deep.MidRow
import Derived.Deep.QuietTactic
import Derived.BigQuiet
import Derived.Laws.StructEq
import Derived.WalkSmall
import Derived.Deep.RegionWith
namespace Go.Proofs.YtfconbblnmbnpaeGreatDoor

/-- Do two states look the same? -/
def likeS (s t : St) : Bool := decide (s.p = t.p) && (decide (s.c 0 = t.c 0) && (decide (s.c 1 = t.c 1) && (decide (s.c 2 = t.c 2) && (decide (s.c 3 = t.c 3) && (decide (s.c 4 = t.c 4) && (decide (s.c 5 = t.c 5) && (s.f == t.f)))))))
theorem likeS_refl (s : St) : likeS s s = true := by simp [likeS]
end Go.Proofs.YtfconbblnmbnpaeGreatDoor
namespace Go.Proofs.YtfconbblnmbnpaeGreatDoor
open Go.RowKit

theorem Ops.block {w w' : World} {v : Value} {l : List O3} (h : Ops w v l) (hb : ∀ k, k < w.heap.size → v.ownBlock = some k → w'.heap[k]? = w.heap[k]?) (hs : w.heap.size ≤ w'.heap.size) : Ops w' v l := by
  rcases h with h | ⟨b, off, cap, rfl, hlt, hc⟩
  · exact Or.inl h
  · have hk := hb b hlt rfl
    refine Or.inr ⟨b, off, cap, rfl, by omega, fun i o ho => ?_⟩
    obtain ⟨h0, h1, h2⟩ := hc i o ho
    exact ⟨(World.cell?_of_block (w := w) (a := ⟨b, _, none⟩) hk).trans h0, (World.cell?_of_block (w := w) (a := ⟨b, _, none⟩) hk).trans h1, (World.cell?_of_block (w := w) (a := ⟨b, _, none⟩) hk).trans h2⟩
theorem Ops.lt {w : World} {v : Value} {l : List O3} (h : Ops w v l) (hl : l ≠ []) : ∀ g, v.ownBlock = some g → g < w.heap.size := fun g hg => by
  rcases h with ⟨rfl, _⟩ | ⟨b, off, cap, rfl, hlt, _⟩
  · exact absurd rfl hl
  · simp only [Value.ownBlock, Option.some.injEq] at hg
    omega
end Go.Proofs.YtfconbblnmbnpaeGreatDoor
namespace Go.Proofs.YtfconbblnmbnpaeGreatDoor

/-- What is wrong with a plan, or a room of it. -/
def prgE (p : PD) (r : Int) : Int := if plchk p = 0 then (if r < 0 ∨ (p.code.length : Int) ≤ r then 1 else 0) else plchk p
theorem prgE_two (p : PD) (r : Int) : prgE p r = if plchk p = 0 ∧ (r < 0 ∨ (p.code.length : Int) ≤ r) then 1 else plchk p := by
  unfold prgE
  by_cases h : plchk p = 0
  · by_cases h2 : r < 0 ∨ (p.code.length : Int) ≤ r
    · rw [if_pos h, if_pos h2, if_pos ⟨h, h2⟩]
    · rw [if_pos h, if_neg h2, if_neg (fun e => h2 e.2), h]
  · rw [if_neg h, if_neg (fun e => h e.1)]
theorem prgE_zero {p : PD} {r : Int} (h : prgE p r = 0) : plchk p = 0 ∧ 0 ≤ r ∧ r < (p.code.length : Int) := by
  unfold prgE at h
  split at h
  · rename_i h1
    split at h
    · omega
    · exact ⟨h1, by omega, by omega⟩
  · omega
end Go.Proofs.YtfconbblnmbnpaeGreatDoor
namespace Go.Proofs.YtfconbblnmbnpaeGreatDoor
open Go.RowKit

/-- No plan. -/
def noPlan : PD := ⟨[], 0, [], []⟩
/-- The plan without those that cannot tell a room. -/
def prgP (p : PD) (r : Int) : PD := if prgE p r = 0 then purgeP p (fun i => way p.wires i r.toNat) else noPlan
def PrgPurge (G : World → Prop) : Prop := ∀ (p : PD) (vc vs vw : Value) (r : Int) (W : World), G W → Pln W vc vs vw p → Calls Tryz.prog 6 #[plV vc p.ticks vs vw, .int .i64 r] W fun e w' => ∃ ic is iw, e = .returned (.tuple #[plV ic (prgP p r).ticks is iw, wErr (prgE p r)]) ∧ Pln w' ic is iw (prgP p r) ∧ Below W.heap.size W w'
end Go.Proofs.YtfconbblnmbnpaeGreatDoor
namespace Go.Proofs.YtfconbblnmbnpaeGreatDoor
open Go.RowKit

/-- What is wrong where two are held against each other. -/
def likeE (p q : PD) (n r : Int) : Int := if plchk p = 0 then (if plchk q = 0 then (if r < 0 ∨ (p.code.length : Int) ≤ r ∨ (q.code.length : Int) ≤ r ∨ n < 0 ∨ 2000 < n then 1 else 0) else plchk q) else plchk p
/-- The first place at which two rows of states part; -1: none. -/
def partAt : List St → List St → Nat → Int
  | s :: l, t :: m, i => if likeS s t = true then partAt l m (i + 1) else (i : Int)
  | _, _, _ => -1
theorem partAt_same : ∀ (l : List St) (i : Nat), partAt l l i = -1
  | [], _ => rfl
  | s :: l, i => by
    rw [partAt, if_pos (likeS_refl s)]
    exact partAt_same l (i + 1)
def likeAt (p q : PD) (n r : Int) : Int := if likeE p q n r = 0 then partAt (statesK p n.toNat r.toNat) (statesK q n.toNat r.toNat) 0 else 0
def PrgSame (G : World → Prop) : Prop := ∀ (p q : PD) (vc vs vw ic is iw : Value) (n r : Int) (W : World), G W → Pln W vc vs vw p → Pln W ic is iw q → Calls Tryz.prog 10 #[plV vc p.ticks vs vw, plV ic q.ticks is iw, .int .i64 n, .int .i64 r] W fun e w' => e = .returned (.tuple #[.int .i64 (likeAt p q n r), wErr (likeE p q n r)]) ∧ Below W.heap.size W w'
/-- WHO CANNOT TELL DOES NOT MATTER, as package purge tells it. -/
theorem like_purged {p : PD} {n r : Int} (hz : prgE p r = 0) (hn : 0 ≤ n) (hn2 : n ≤ 400) : likeE p (prgP p r) n r = 0 ∧ likeAt p (prgP p r) n r = -1 ∧ plchk (prgP p r) = 0 := by
  have hq : prgP p r = purgeP p (fun i => way p.wires i r.toNat) := by
    unfold prgP
    rw [if_pos hz]
  have hpp : plchk p = 0 ∧ 0 ≤ r ∧ r < (p.code.length : Int) := by
    unfold prgE at hz
    split at hz
    · rename_i h1
      split at hz
      · omega
      · exact ⟨h1, by omega, by omega⟩
    · omega
  have hr := purge_right (fun i => way p.wires i r.toNat) hpp.1
  have he : likeE p (prgP p r) n r = 0 := by
    have hl : ((prgP p r).code.length : Int) = p.code.length := by
      rw [hq]
      show ((purgeC _ 0 p.code).length : Int) = _
      rw [purgeC_len]
    unfold likeE
    rw [if_pos hpp.1, hl, hq, if_pos hr, if_neg (by omega)]
  refine ⟨he, ?_, by rw [hq]; exact hr⟩
  unfold likeAt
  rw [if_pos he, hq, purge_states hpp.1]
  exact partAt_same _ _
end Go.Proofs.YtfconbblnmbnpaeGreatDoor
namespace Go.Proofs.YtfconbblnmbnpaeGreatDoor
open Go.RowKit

/-- Behind the boxes of two plans. -/
def Bxt (w W : World) (pc : Value) (pn : Int) (ps pw qc : Value) (qn : Int) (qs qw : Value) : Prop := Below (w.heap.size + 2) ((w.alloc (.cells #[pc, .int .i64 pn, ps, pw] 26)).alloc (.cells #[qc, .int .i64 qn, qs, qw] 26)) W
section
variable {w W : World} {pc ps pw qc qs qw : Value} {pn qn : Int}
theorem Bxt.first (w : World) (pc : Value) (pn : Int) (ps pw qc : Value) (qn : Int) (qs qw : Value) : Bxt w ((w.alloc (.cells #[pc, .int .i64 pn, ps, pw] 26)).alloc (.cells #[qc, .int .i64 qn, qs, qw] 26)) pc pn ps pw qc qn qs qw := Below.refl _ _
theorem Bxt.size (h : Bxt w W pc pn ps pw qc qn qs qw) : w.heap.size + 2 ≤ W.heap.size := by
  have := Below.size h
  simpa using this
theorem Bxt.step {W' : World} (h : Bxt w W pc pn ps pw qc qn qs qw) (hb : Below W.heap.size W W') : Bxt w W' pc pn ps pw qc qn qs qw := Below.trans h (hb.mono h.size)
theorem Bxt.set {W' : World} (h : Bxt w W pc pn ps pw qc qn qs qw) {M : List Nat} (hb : KTouch M W W') (hM : ∀ m ∈ M, w.heap.size + 2 ≤ m) : Bxt w W' pc pn ps pw qc qn qs qw := Below.trans h (hb.below hM h.size)
theorem Bxt.below (h : Bxt w W pc pn ps pw qc qn qs qw) : Below w.heap.size w W := (((Below.refl _ _).alloc (Nat.le_refl _) _).alloc (by simp) _).trans (Below.mono h (Nat.le_add_right _ _))
theorem Bxt.cs (h : Bxt w W pc pn ps pw qc qn qs qw) : W.cell? ⟨w.heap.size, 0, none⟩ = some pc ∧ W.cell? ⟨w.heap.size, 1, none⟩ = some (.int .i64 pn) ∧ W.cell? ⟨w.heap.size, 2, none⟩ = some ps ∧ W.cell? ⟨w.heap.size, 3, none⟩ = some pw :=
  ⟨(Below.cell h (p := ⟨w.heap.size, 0, none⟩) (by simp)).trans (by simp), (Below.cell h (p := ⟨w.heap.size, 1, none⟩) (by simp)).trans (by simp), (Below.cell h (p := ⟨w.heap.size, 2, none⟩) (by simp)).trans (by simp), (Below.cell h (p := ⟨w.heap.size, 3, none⟩) (by simp)).trans (by simp)⟩
theorem Bxt.ds (h : Bxt w W pc pn ps pw qc qn qs qw) : W.cell? ⟨w.heap.size + 1, 0, none⟩ = some qc ∧ W.cell? ⟨w.heap.size + 1, 1, none⟩ = some (.int .i64 qn) ∧ W.cell? ⟨w.heap.size + 1, 2, none⟩ = some qs ∧ W.cell? ⟨w.heap.size + 1, 3, none⟩ = some qw :=
  ⟨(Below.cell h (p := ⟨w.heap.size + 1, 0, none⟩) (by simp)).trans (by simp), (Below.cell h (p := ⟨w.heap.size + 1, 1, none⟩) (by simp)).trans (by simp), (Below.cell h (p := ⟨w.heap.size + 1, 2, none⟩) (by simp)).trans (by simp), (Below.cell h (p := ⟨w.heap.size + 1, 3, none⟩) (by simp)).trans (by simp)⟩
end
/-- From behind: one state more. -/
theorem partAt_drop {l m : List St} {j : Nat} {s t : St} (hl : l[j]? = some s) (hm : m[j]? = some t) : partAt (l.drop j) (m.drop j) j = if likeS s t = true then partAt (l.drop (j + 1)) (m.drop (j + 1)) (j + 1) else (j : Int) := by
  obtain ⟨h1, rfl⟩ := List.getElem?_eq_some_iff.1 hl
  obtain ⟨h2, rfl⟩ := List.getElem?_eq_some_iff.1 hm
  rw [List.drop_eq_getElem_cons h1, List.drop_eq_getElem_cons h2, partAt]
theorem partAt_end {l m : List St} {j : Nat} (hl : l.length ≤ j) : partAt (l.drop j) (m.drop j) j = -1 := by
  rw [List.drop_eq_nil_of_le hl]
  cases m.drop j <;> rfl
/-- What the law does with its n. -/
def nnP (n : Int) : Int := if 200 < n ∧ n ≤ 2000 then n % 200 else n
def badL (p q : PD) (n r : Int) : Prop := r < 0 ∨ (p.code.length : Int) ≤ r ∨ (q.code.length : Int) ≤ r ∨ n < 0 ∨ 2000 < n
instance (p q : PD) (n r : Int) : Decidable (badL p q n r) := by unfold badL; infer_instance
/-- What is wrong with two plans. -/
def twoE (p q : PD) : Int := if plchk p = 0 then plchk q else plchk p
theorem likeE_two (p q : PD) (n r : Int) : likeE p q n r = if twoE p q = 0 ∧ badL p q n r then 1 else twoE p q := by
  unfold likeE twoE badL
  by_cases h : plchk p = 0
  · by_cases h2 : plchk q = 0
    · rw [if_pos h, if_pos h2, if_pos h, h2]
      by_cases h3 : r < 0 ∨ (p.code.length : Int) ≤ r ∨ (q.code.length : Int) ≤ r ∨ n < 0 ∨ 2000 < n
      · rw [if_pos h3, if_pos ⟨rfl, h3⟩]
      · rw [if_neg h3, if_neg (fun e => h3 e.2)]
    · rw [if_pos h, if_neg h2, if_pos h, if_neg (fun e => h2 e.1)]
  · rw [if_neg h, if_neg h, if_neg (fun e => h e.1)]
theorem likeE_zero {p q : PD} {n r : Int} (h : likeE p q n r = 0) : plchk p = 0 ∧ plchk q = 0 ∧ 0 ≤ r ∧ r < (p.code.length : Int) ∧ r < (q.code.length : Int) ∧ 0 ≤ n ∧ n ≤ 2000 := by
  unfold likeE at h
  split at h
  · rename_i h1
    split at h
    · rename_i h2
      split at h
      · omega
      · exact ⟨h1, h2, by omega, by omega, by omega, by omega, by omega⟩
    · omega
  · omega
end Go.Proofs.YtfconbblnmbnpaeGreatDoor
namespace Go.Proofs.YtfconbblnmbnpaeGreatDoor
open Go.ChangeShapes Go.WideShapes Go.ChangeAt Go.WideElems Go.RowKit

theorem gForms : Tryz.prog.globalNamed "framekeep/code.forms" = some 1 := by kernel_rfl
theorem tForms : (Tryz.prog.globals[1]?).map (·.type) = some 171 := by kernel_rfl
theorem cStr : Tryz.prog.cellsOf 9 = 1 := by kernel_rfl
theorem cInt : Tryz.prog.cellsOf 3 = 1 := by kernel_rfl
theorem cTwo : Tryz.prog.cellsOf 168 = 2 := by kernel_rfl
theorem cForm : Tryz.prog.cellsOf 170 = 3 := by kernel_rfl

theorem len2 {α : Type} {l : List α} (h : l.length = 2) : ∃ a b, l = [a, b] := by
  match l, h with
  | [a, b], _ => exact ⟨a, b, rfl⟩
theorem len3 {α : Type} {l : List α} (h : l.length = 3) : ∃ a b c, l = [a, b, c] := by
  match l, h with
  | [a, b, c], _ => exact ⟨a, b, c, rfl⟩
theorem two_one {H : Type} {enc : TypeId × Value → H} {w : World} {base : Nat} {sp : Nat → Bool} {held : Bool} {fuel : Nat} {cs : List Value} {p q : Int} {pl : List MemPlace}
    (h : DataW.trod enc Tryz.prog w base sp held fuel 168 cs = some (.agg [.lit (.int .i64 p), .lit (.int .i64 q)], pl)) : cs = [.int .i64 p, .int .i64 q] := by
  have := Lib.cells_of_tab (k := .i64) (zs := [p, q]) Tryz.underlying168 Tryz.underlying3 cInt cTwo h
  simpa using this
theorem form_one {H : Type} {enc : TypeId × Value → H} {w : World} {base : Nat} {sp : Nat → Bool} {held : Bool} {fuel : Nat} {cs : List Value} {s : List UInt8} {p q : Int} {pl : List MemPlace}
    (h : DataW.trod enc Tryz.prog w base sp held fuel 170 cs = some (.agg [.lit (.string s), .agg [.lit (.int .i64 p), .lit (.int .i64 q)]], pl)) : cs = [.string ⟨s.toArray⟩, .int .i64 p, .int .i64 q] := by
  obtain ⟨xs, n, _, hx, hl, hxl, hf⟩ := DataW.trod_struct Tryz.underlying170 h
  rw [cForm] at hl
  have f0 : DataW.trod enc Tryz.prog w base sp held n 9 ((cs.drop 0).take (Tryz.prog.cellsOf 9)) = xs[0]? := hf 0 _ rfl
  have f1 : DataW.trod enc Tryz.prog w base sp held n 168 ((cs.drop 1).take (Tryz.prog.cellsOf 168)) = xs[1]? := hf 1 _ rfl
  rw [cStr] at f0
  rw [cTwo] at f1
  simp only [Prod.mk.injEq, DataW.agg.injEq] at hx
  obtain ⟨c0, c1, c2, rfl⟩ := len3 hl
  have hxl2 : xs.length = 2 := hxl
  obtain ⟨x0, x1, rfl⟩ := len2 hxl2
  simp only [List.map_cons, List.map_nil, List.cons.injEq, and_true] at hx
  simp at f0 f1
  obtain ⟨y0, z0⟩ := x0
  obtain ⟨y1, z1⟩ := x1
  simp only at hx
  rw [← hx.1.1] at f0
  rw [← hx.1.2] at f1
  obtain ⟨b, hb, hb2, _⟩ := DataW.trod_string Tryz.underlying9 f0
  simp only [Prod.mk.injEq, DataW.lit.injEq, Lit.string.injEq] at hb2
  have h2 := two_one f1
  simp only [List.cons.injEq, and_true] at hb h2
  obtain ⟨rfl, rfl⟩ := h2
  rw [hb, hb2.1]

/-- The rows of the table of forms. -/
def formRows : List (List UInt8 × Int × Int) := [([], 0, 0), ([115, 101, 116], 6, 1000), ([99, 111, 112, 121], 6, 6), ([97, 100, 100], 6, 6), ([115, 117, 98], 6, 6), ([109, 117, 108], 6, 6), ([122, 101, 114, 111], 6, 0), ([106, 117, 109, 112], 1, 0), ([115, 101, 110, 100], 6, 12), ([116, 97, 107, 101], 6, 12), ([114, 101, 115, 116], 1, 1), ([102, 97, 105, 108], 1, 1)]
def formD {H : Type} (r : List UInt8 × Int × Int) : DataW H := .agg [.lit (.string r.1), .agg [.lit (.int .i64 r.2.1), .lit (.int .i64 r.2.2)]]
theorem forms_of_head {W : World} {rest : List (String × DataW Unit)} (h : laidMet Tryz.prog (("framekeep/code.forms", .agg (formRows.map formD)) :: rest) W) : Forms W := by
  obtain ⟨ps, ⟨g', t', cs, fuel, p, q, hg', ht', hvar, hd, _, _⟩, _⟩ := h
  obtain rfl := Option.some.inj (gForms.symm.trans hg')
  obtain rfl := Option.some.inj (tForms.symm.trans ht')
  obtain ⟨xs, m, _, hx, _, hxl, hel⟩ := DataW.trod_array Tryz.underlying171 hd
  simp only [Prod.mk.injEq, DataW.agg.injEq] at hx
  have hrow : ∀ (i : Nat) r, formRows[i]? = some r → (cs.toList.drop (i * 3)).take 3 = [.string ⟨r.1.toArray⟩, .int .i64 r.2.1, .int .i64 r.2.2] := by
    intro i r hr
    have hi : i < 12 := by
      rcases Nat.lt_or_ge i 12 with h | h
      · exact h
      · rw [List.getElem?_eq_none (show formRows.length ≤ i from h)] at hr; cases hr
    have e1 := hel i hi
    rw [cForm] at e1
    have e2 : (xs.map (·.1))[i]? = some (formD r) := by rw [← hx.1]; simp [hr]
    simp only [List.getElem?_map, Option.map_eq_some_iff] at e2
    obtain ⟨⟨y, z⟩, hy, rfl⟩ := e2
    rw [hy] at e1
    exact form_one e1
  have hcell := fun i => World.var?_cell hg' hvar i
  have hat : ∀ (i j : Nat) r u, formRows[i]? = some r → j < 3 → ([.string ⟨r.1.toArray⟩, .int .i64 r.2.1, .int .i64 r.2.2] : List Value)[j]? = some u → W.cell? ⟨1, i * 3 + j, none⟩ = some u := by
    intro i j r u hr hj hu
    rw [← hrow i r hr] at hu
    rw [List.getElem?_take, if_pos hj, List.getElem?_drop] at hu
    rw [hcell]
    simpa using hu
  intro i v hv
  have hi : i < 36 := by
    rcases Nat.lt_or_ge i 36 with h | h
    · exact h
    · rw [List.getElem?_eq_none (show formsCells.length ≤ i from h)] at hv; cases hv
  have key : ∀ i, i < 36 → ∀ v, formsCells[i]? = some v → ∃ r, formRows[i / 3]? = some r ∧ ([.string ⟨r.1.toArray⟩, .int .i64 r.2.1, .int .i64 r.2.2] : List Value)[i % 3]? = some v := by
    intro i hi v hv
    match i, hi with
    | 0, _ | 1, _ | 2, _ | 3, _ | 4, _ | 5, _ | 6, _ | 7, _ | 8, _ | 9, _ | 10, _ | 11, _ | 12, _ | 13, _ | 14, _ | 15, _ | 16, _ | 17, _ | 18, _ | 19, _ | 20, _ | 21, _ | 22, _ | 23, _ | 24, _ | 25, _ | 26, _ | 27, _ | 28, _ | 29, _ | 30, _ | 31, _ | 32, _ | 33, _ | 34, _ | 35, _ => exact ⟨_, rfl, hv⟩
    | i + 36, h => omega
  obtain ⟨r, h1, h2⟩ := key i hi v hv
  have := hat (i / 3) (i % 3) r v h1 (Nat.mod_lt _ (by decide)) h2
  rwa [show i / 3 * 3 + i % 3 = i by omega] at this
end Go.Proofs.YtfconbblnmbnpaeGreatDoor
namespace Go.Proofs.YtfconbblnmbnpaeGreatDoor
open Go.RowKit

/-- The plan is being made: codes so far. -/
structure QP (b0 : Nat) (w1 W : World) (p : PD) (R : Nat → Bool) (kb : Nat) (vs vw cv : Value) (us : List Value) : Prop where
  tk : KTouch [kb] w1 W
  kl : kb < w1.heap.size
  k0 : b0 ≤ kb
  blk : W.heap[kb]? = some (.cells #[cv, .int .i64 p.ticks, vs, vw] 26 (0, 0))
  own : W.ownsRow w1.heap.size 51 1 cv us.length us
  ops : ∀ (i : Nat) u c, us[i]? = some u → p.code[i]? = some c → Ops W u (if R i = true then c else restC)
  ap : ∀ u ∈ us, ∀ g, u.ownBlock = some g → (g < b0 ∨ w1.heap.size ≤ g) ∧ g < W.heap.size ∧ cv.ownBlock ≠ some g
  len : us.length ≤ p.code.length
theorem QP.cs {b0 : Nat} {w1 W : World} {p : PD} {R : Nat → Bool} {kb : Nat} {vs vw cv : Value} {us : List Value} (h : QP b0 w1 W p R kb vs vw cv us) : W.cell? ⟨kb, 0, none⟩ = some cv ∧ W.cell? ⟨kb, 1, none⟩ = some (.int .i64 p.ticks) ∧ W.cell? ⟨kb, 2, none⟩ = some vs ∧ W.cell? ⟨kb, 3, none⟩ = some vw ∧ W.frozen? ⟨kb, 0, none⟩ = false := by
  have e := h.blk
  simp [World.cell?, World.frozen?, e]
/-- One code more: one of the plan's, or one that rests. -/
theorem QP.more {b0 : Nat} {w1 W w2 wa : World} {p : PD} {R : Nat → Bool} {kb : Nat} {vs vw cv cv' u : Value} {us : List Value} {c : List O3} (h : QP b0 w1 W p R kb vs vw cv us) (hc : p.code[us.length]? = some c) (b2 : Below W.heap.size W w2) (hu : Ops w2 u (if R us.length = true then c else restC))
    (hua : ∀ g, u.ownBlock = some g → (g < b0 ∨ W.heap.size ≤ g) ∧ g < w2.heap.size)
    (hg : (w2.alloc (.cells #[u] 51)).grownBy wa cv.ownBlock) (hown : wa.ownsRow w1.heap.size 51 1 cv' (us.length + 1) (us ++ [u])) (hnew : ∀ g, cv'.ownBlock = some g → cv.ownBlock = some g ∨ w2.heap.size + 1 ≤ g) : QP b0 w1 (wa.setCell ⟨kb, 0, none⟩ cv') p R kb vs vw cv' (us ++ [u]) := by
  have b3 : Below W.heap.size W (w2.alloc (.cells #[u] 51)) := b2.alloc b2.size _
  have hs3 : (w2.alloc (.cells #[u] 51)).heap.size = w2.heap.size + 1 := by simp
  have hs := h.tk.size
  have hs2 := b2.size
  have hga := hg.size
  rw [hs3] at hga
  have hkl := h.kl
  have hk0 := h.k0
  have hcr : ∀ k, cv.ownBlock = some k → w1.heap.size ≤ k ∧ k < W.heap.size := fun k hk => h.own.lt k hk
  have hset : ∀ k, k ≠ kb → (wa.setCell ⟨kb, 0, none⟩ cv').heap[k]? = wa.heap[k]? := fun k hk => Below.heap_setCell _ _ _ _ hk
  have hsz2 : (wa.setCell ⟨kb, 0, none⟩ cv').heap.size = wa.heap.size := by simp
  have hold : ∀ k, k < w2.heap.size → k ≠ kb → cv.ownBlock ≠ some k → (wa.setCell ⟨kb, 0, none⟩ cv').heap[k]? = w2.heap[k]? := fun k h2 h3 h4 => (hset k h3).trans ((hg.block k (by rw [hs3]; omega) (fun e => h4 e.symm)).trans (((Below.refl _ w2).alloc (Nat.le_refl _) _).block k h2))
  have hune : ∀ g, u.ownBlock = some g → g ≠ kb ∧ cv.ownBlock ≠ some g := fun g hg' => by
    obtain ⟨h1, _⟩ := hua g hg'
    refine ⟨by omega, fun e => ?_⟩
    have := hcr g e
    omega
  refine ⟨⟨(hg.os.trans (b3.os.trans h.tk.os)), (hg.tape.trans (b3.tape.trans h.tk.tape)), (hg.output.trans (b3.output.trans h.tk.output)), by omega, fun k hk hm => ?_⟩, h.kl, h.k0, ?_, ?_, fun i x d hx hd => ?_, fun x hx g hgx => ?_, ?_⟩
  · have hkk : k ≠ kb := fun e => hm (by simp [e])
    refine (hset k hkk).trans ((hg.block k (by rw [hs3]; omega) (fun e => ?_)).trans ((b3.block k (by omega)).trans (h.tk.block k hk hm)))
    have := (hcr k e.symm).1
    omega
  · have hlt : kb < W.heap.size := by omega
    have e : wa.heap[kb]? = some (.cells #[cv, .int .i64 p.ticks, vs, vw] 26 (0, 0)) := (hg.block kb (by rw [hs3]; omega) (fun e => by have := (hcr kb e.symm).1; omega)).trans ((b3.block kb hlt).trans h.blk)
    simp [World.setCell, Array.getElem?_modify, e]
  · rw [List.length_append]
    exact ownsRow_setCell_below hown (a := ⟨kb, 0, none⟩) h.kl cv'
  · by_cases hi : i < us.length
    · rw [List.getElem?_append_left hi] at hx
      have ho := h.ops i x d hx hd
      refine (ho.all b2).block (fun k hk he => ?_) (by omega)
      obtain ⟨h1, h2, h3⟩ := h.ap x (List.mem_of_getElem? hx) k he
      exact hold k hk (by omega) h3
    · have hlt := (List.getElem?_eq_some_iff.1 hx).1
      rw [List.length_append, List.length_singleton] at hlt
      obtain rfl : i = us.length := by omega
      rw [List.getElem?_append_right (Nat.le_refl _), Nat.sub_self] at hx
      simp only [List.getElem?_cons_zero, Option.some.injEq] at hx
      subst hx
      rw [hc] at hd
      obtain rfl := Option.some.inj hd
      exact hu.block (fun k hk he => hold k hk (hune k he).1 (hune k he).2) (by omega)
  · rcases List.mem_append.1 hx with h1 | h1
    · obtain ⟨h2, h3, h4⟩ := h.ap x h1 g hgx
      refine ⟨h2, by omega, fun e => ?_⟩
      rcases hnew g e with h5 | h5
      · exact h4 h5
      · omega
    · rw [List.mem_singleton] at h1
      subst h1
      obtain ⟨h2, h3⟩ := hua g hgx
      refine ⟨by omega, by omega, fun e => ?_⟩
      rcases hnew g e with h5 | h5
      · exact (hune g hgx).2 h5
      · omega
  · rw [List.length_append, List.length_singleton]
    exact (List.getElem?_eq_some_iff.1 hc).1
/-- All of them, read elsewhere than in two blocks of the caller's. -/
theorem QP.cds {b0 : Nat} {w1 W W' : World} {p : PD} {R : Nat → Bool} {kb : Nat} {vs vw cv : Value} {us : List Value} (h : QP b0 w1 W p R kb vs vw cv us) (hl : us.length = p.code.length) {M : List Nat} (ht : KTouch M W W') (hM : ∀ m ∈ M, b0 ≤ m ∧ m < w1.heap.size) : Cds W' cv (purgeC R 0 p.code) := by
  have hrl := h.own.lt
  have hcs := @World.ownsRow.cells _ _ _ _ _ _ _ h.own
  have hlen : (purgeC R 0 p.code).length = us.length := by rw [purgeC_len, hl]
  rcases h.own.2 with ⟨rfl, h0⟩ | ⟨g, cap, cur, rfl, hge, _, hcap, _⟩
  · exact Or.inl ⟨List.eq_nil_of_length_eq_zero (by rw [hlen]; exact h0), _, _, rfl⟩
  · refine Or.inr ⟨g, 0, cap, by rw [hlen], by rw [hlen]; exact hcap, Nat.lt_of_lt_of_le (hrl g rfl).2 ht.size, fun i d hd => ?_⟩
    rw [purgeC_at] at hd
    obtain ⟨c, hc, hcd⟩ := Option.map_eq_some_iff.1 hd
    have hil : i < us.length := by rw [hl]; exact (List.getElem?_eq_some_iff.1 hc).1
    have hu : us[i]? = some us[i] := List.getElem?_eq_getElem hil
    have hcell := hcs rfl i _ hu
    rw [Addr.add_lit] at hcell
    refine ⟨us[i], (World.cell?_of_block (w := W) (a := ⟨g, _, none⟩) (ht.block g (hrl g rfl).2 (fun hm => ?_))).trans hcell, ?_⟩
    · have := (hM g hm).2
      omega
    · rw [← hcd, Nat.zero_add]
      refine (h.ops i _ c hu hc).block (fun k hk he => ht.block k hk (fun hm => ?_)) ht.size
      obtain ⟨h1, _, _⟩ := h.ap _ (List.mem_of_getElem? hu) k he
      have := hM k hm
      omega
theorem rest_ops {w : World} {k : Nat} (hk : k = w.heap.size) : Ops (w.alloc (.cells #[.int .i64 10, .int .i64 0, .int .i64 0] 58)) (.slice (some ⟨k, 0, none⟩) 1 1) restC := by
  subst hk
  refine Or.inr ⟨w.heap.size, 0, 1, rfl, by simp, fun i o ho => ?_⟩
  match i, ho with
  | 0, ho => simp [restC] at ho; subst ho; simp [go_sem]
  | i + 1, ho => simp [restC] at ho
end Go.Proofs.YtfconbblnmbnpaeGreatDoor
namespace Go.Proofs.YtfconbblnmbnpaeGreatDoor
open Go.RowKit

set_option maxRecDepth 100000 in
set_option maxHeartbeats 8000000 in
theorem rpurge_any (p : PD) (vc vs vw : Value) (r : Nat) (w0 w : World) (hp : plchk p = 0) (hP0 : Pln w0 vc vs vw p) (hb0 : Below w0.heap.size w0 w) (hr : r < p.code.length) :
    Calls Tryz.prog 5 #[plV vc p.ticks vs vw, .int .i64 r] w fun e w' => ∃ ic, e = .returned (plV ic p.ticks vs vw) ∧ (∀ M W', KTouch M w' W' → (∀ m ∈ M, w0.heap.size ≤ m ∧ m < w.heap.size) → Pln W' ic vs vw (purgeP p (fun i => way p.wires i r))) ∧ Below w.heap.size w w' := by
  have hP := hP0.all hb0
  have hs0 := hb0.size
  obtain ⟨jj, hj, hy0, hy1, hy2⟩ := info_parts infoOps
  obtain ⟨ca, cc, rfl⟩ := hP.code.form
  obtain ⟨sa, sc, rfl⟩ := hP.spans.form
  obtain ⟨wa, wc', rfl⟩ := hP.wires.form
  obtain ⟨hc5, hc0, hfz, hwz, _, _, hcz, _⟩ := plchk_zero hp
  have hok := wschk_ok hwz
  have hr5 : r < 5 := by omega
  have HP : Hid (Pln w (.slice ca p.code.length cc) (.slice sa p.spans.length sc) (.slice wa p.wires.length wc') p) := hP
  have HP0 : Hid (Pln w0 (.slice ca p.code.length cc) (.slice sa p.spans.length sc) (.slice wa p.wires.length wc') p) := hP0
  have HB0 : Hid (Below w0.heap.size w0 w) := hb0
  have HW : Hid (∀ W, Below w.heap.size w W → Calls Tryz.prog 15 #[.slice wa p.wires.length wc'] W fun e w' => e = .returned (.agg (wayCells p.wires).toArray) ∧ Below W.heap.size W w') := fun W hb => ways_any p.wires _ W (hP.wires.all hb) hok.1 hok.2
  have HNE : Hid (∀ c ∈ p.code, c ≠ []) := fun c hc e => (chk_zero (codesE_zero hcz c hc)).1 (by rw [e]; rfl)
  unfold plV
  clear hP hP0 hb0 hok hwz hcz hfz
  have hA1 : Below w.heap.size w (w.alloc (.cells #[.slice ca p.code.length cc, .int .i64 p.ticks, .slice sa p.spans.length sc, .slice wa p.wires.length wc'] 26)) := (Below.refl _ _).alloc (Nat.le_refl _) _
  have hA2 : Below (w.heap.size + 2) ((w.alloc (.cells #[.slice ca p.code.length cc, .int .i64 p.ticks, .slice sa p.spans.length sc, .slice wa p.wires.length wc'] 26)).alloc (.cells #[.slice none 0 0, .int .i64 0, .slice none 0 0, .slice none 0 0] 26)) ((w.alloc (.cells #[.slice ca p.code.length cc, .int .i64 p.ticks, .slice sa p.spans.length sc, .slice wa p.wires.length wc'] 26)).alloc (.cells #[.slice none 0 0, .int .i64 0, .slice none 0 0, .slice none 0 0] 26)) := Below.refl _ _
  have hAB : Below w.heap.size w ((w.alloc (.cells #[.slice ca p.code.length cc, .int .i64 p.ticks, .slice sa p.spans.length sc, .slice wa p.wires.length wc'] 26)).alloc (.cells #[.slice none 0 0, .int .i64 0, .slice none 0 0, .slice none 0 0] 26)) := hA1.alloc (by simp) _
  generalize hWA : (w.alloc (.cells #[.slice ca p.code.length cc, .int .i64 p.ticks, .slice sa p.spans.length sc, .slice wa p.wires.length wc'] 26)).alloc (.cells #[.slice none 0 0, .int .i64 0, .slice none 0 0, .slice none 0 0] 26) = WA at hA2 hAB
  have hsA : WA.heap.size = w.heap.size + 2 := by rw [← hWA]; simp
  have d0 : WA.cell? ⟨w.heap.size, 0, none⟩ = some (.slice ca p.code.length cc) := by rw [← hWA]; simp [go_sem]
  have d1 : WA.cell? ⟨w.heap.size, 1, none⟩ = some (.int .i64 p.ticks) := by rw [← hWA]; simp [go_sem]
  have d2 : WA.cell? ⟨w.heap.size, 2, none⟩ = some (.slice sa p.spans.length sc) := by rw [← hWA]; simp [go_sem]
  have d3 : WA.cell? ⟨w.heap.size, 3, none⟩ = some (.slice wa p.wires.length wc') := by rw [← hWA]; simp [go_sem]
  have HZ : Hid (WA.cell? ⟨w.heap.size + 1, 0, none⟩ = some (.slice none 0 0) ∧ WA.cell? ⟨w.heap.size + 1, 1, none⟩ = some (.int .i64 0) ∧ WA.cell? ⟨w.heap.size + 1, 2, none⟩ = some (.slice none 0 0) ∧ WA.cell? ⟨w.heap.size + 1, 3, none⟩ = some (.slice none 0 0) ∧ WA.frozen? ⟨w.heap.size + 1, 0, none⟩ = false ∧ WA.frozen? ⟨w.heap.size + 1, 1, none⟩ = false ∧ WA.frozen? ⟨w.heap.size + 1, 2, none⟩ = false ∧ WA.frozen? ⟨w.heap.size + 1, 3, none⟩ = false) := by
    rw [← hWA]
    refine ⟨?_, ?_, ?_, ?_, ?_, ?_, ?_, ?_⟩ <;> simp [go_sem]
  have q1 := HW.out WA hAB
  clear hA1 hA2
  go_enter Tryz.func5, Tryz.ntmps5
  go_upto_region 1 with fail
  clear hWA
  go_wp2_with (first
    | (go_at_call 15; refine q1.mono ?_; rintro e w1 ⟨rfl, b1⟩; clear q1)
    | (refine wpList_store_mid rfl 55 _ _ rfl w1.heap.size 0 (wayCells p.wires).toArray rfl rfl (there_new w1 55) (by kernel_rfl) (way_one p.wires) ?_; rw [show (wayCells p.wires).toArray.toList = wayCells p.wires from rfl]; have cz := fun (i : Nat) (hi : i < 5) => ways_cell w1 p.wires 55 hi hr5; have Bz := below_cells (b1.alloc b1.size (.cells z25 55)) b1.size (wayCells p.wires) 0; have sz : w1.heap.size + 1 ≤ ((w1.alloc (.cells z25 55)).setCells w1.heap.size 0 (wayCells p.wires)).heap.size := (by have := (below_cells (Below.refl w1.heap.size (w1.alloc (.cells z25 55))) (Nat.le_refl _) (wayCells p.wires) 0).size; rw [World.size_alloc] at this; exact this); unfold z25 at cz Bz sz; generalize World.setCells _ w1.heap.size 0 (wayCells p.wires) = wz at cz Bz sz ⊢; have HC : Hid (∀ (i : Nat), i < 5 → wz.cell? ⟨w1.heap.size, i * 5 + r, none⟩ = some (.bool (way p.wires i r))) := cz; clear cz; have e0 := (Bz.cell (p := ⟨w.heap.size, 0, none⟩) (show w.heap.size < WA.heap.size by omega)).trans d0; have e1 := (Bz.cell (p := ⟨w.heap.size, 1, none⟩) (show w.heap.size < WA.heap.size by omega)).trans d1; have e2 := (Bz.cell (p := ⟨w.heap.size, 2, none⟩) (show w.heap.size < WA.heap.size by omega)).trans d2; have e3 := (Bz.cell (p := ⟨w.heap.size, 3, none⟩) (show w.heap.size < WA.heap.size by omega)).trans d3; clear d0 d1 d2 d3))
  have hsw : WA.heap.size ≤ w1.heap.size := b1.size
  have hsk : wz.heap.size < (wz.alloc (.cells #[.slice none 0 0, .int .i64 p.ticks, .slice sa p.spans.length sc, .slice wa p.wires.length wc'] 26)).heap.size := by simp
  have hB2 : Below wz.heap.size wz (wz.alloc (.cells #[.slice none 0 0, .int .i64 p.ticks, .slice sa p.spans.length sc, .slice wa p.wires.length wc'] 26)) := (Below.refl _ _).alloc (Nat.le_refl _) _
  have hst : QP w0.heap.size (wz.alloc (.cells #[.slice none 0 0, .int .i64 p.ticks, .slice sa p.spans.length sc, .slice wa p.wires.length wc'] 26)) (wz.alloc (.cells #[.slice none 0 0, .int .i64 p.ticks, .slice sa p.spans.length sc, .slice wa p.wires.length wc'] 26)) p (fun i => way p.wires i r) wz.heap.size (.slice sa p.spans.length sc) (.slice wa p.wires.length wc') (.slice none 0 0) [] :=
    ⟨KTouch.refl _ _, by simp, by omega, World.alloc_heap_new _ _, World.ownsRow_nil _ _ _ _, fun i u c h => (by simp at h), fun u hu => (by cases hu), Nat.zero_le _⟩
  have HBz : Hid (Below WA.heap.size WA wz) := Bz
  replace e0 := (hB2.cell (p := ⟨w.heap.size, 0, none⟩) (show w.heap.size < wz.heap.size by omega)).trans e0
  have HC2 : Hid (∀ (i : Nat), i < 5 → (wz.alloc (.cells #[.slice none 0 0, .int .i64 p.ticks, .slice sa p.spans.length sc, .slice wa p.wires.length wc'] 26)).cell? ⟨w1.heap.size, i * 5 + r, none⟩ = some (.bool (way p.wires i r))) := fun i hi => (hB2.cell (p := ⟨w1.heap.size, _, none⟩) (show w1.heap.size < wz.heap.size by omega)).trans (HC.out i hi)
  have HB3 : Hid (Below w.heap.size w (wz.alloc (.cells #[.slice none 0 0, .int .i64 p.ticks, .slice sa p.spans.length sc, .slice wa p.wires.length wc'] 26))) := (hAB.trans (Bz.mono hAB.size)).trans (hB2.mono (by omega))
  have HZ2 : Hid (∀ j, (wz.alloc (.cells #[.slice none 0 0, .int .i64 p.ticks, .slice sa p.spans.length sc, .slice wa p.wires.length wc'] 26)).cell? ⟨w.heap.size + 1, j, none⟩ = WA.cell? ⟨w.heap.size + 1, j, none⟩ ∧ (wz.alloc (.cells #[.slice none 0 0, .int .i64 p.ticks, .slice sa p.spans.length sc, .slice wa p.wires.length wc'] 26)).frozen? ⟨w.heap.size + 1, j, none⟩ = WA.frozen? ⟨w.heap.size + 1, j, none⟩) := fun j => by
    have hb := (Bz.trans (hB2.mono (by omega)))
    exact ⟨hb.cell (p := ⟨w.heap.size + 1, j, none⟩) (show w.heap.size + 1 < WA.heap.size by omega), hb.frozen (p := ⟨w.heap.size + 1, j, none⟩) (show w.heap.size + 1 < WA.heap.size by omega)⟩
  clear hB2 HC e1 e2 e3 Bz b1
  generalize wz.alloc (.cells #[.slice none 0 0, .int .i64 p.ticks, .slice sa p.spans.length sc, .slice wa p.wires.length wc'] 26) = w2 at *
  go_loopw [7] (fun i wr => ∃ us cv, i = .int .i64 (us.length : Nat) ∧ QP w0.heap.size w2 wr p (fun i => way p.wires i r) wz.heap.size (.slice sa p.spans.length sc) (.slice wa p.wires.length wc') cv us) (fun i _ => p.code.length - (intOf i).toNat)
  case atStart => exact ⟨[], _, rfl, hst⟩
  case round =>
    clear hst
    obtain ⟨us, cv, rfl, hq⟩ := hrel
    have hlen := hq.len
    obtain ⟨vo, vn, vk, rfl⟩ := own_form hq.own
    have htk := hq.tk
    have hsr := htk.size
    have f0 : wr.cell? ⟨w.heap.size, 0, none⟩ = some (.slice ca p.code.length cc) := (World.cell?_of_block (w := w2) (a := ⟨w.heap.size, 0, none⟩) (htk.block w.heap.size (by omega) (by simp; omega))).trans e0
    by_cases hkl : us.length < p.code.length
    · have hki : (us.length : Int) < (p.code.length : Int) := by omega
      obtain ⟨cb, co, ua, un, ug, c, rfl, hclt, hcy, hcd, rfl, hops⟩ := HP0.out.code.at hkl
      have hbw0 := HB0.out
      have hbw : Below w.heap.size w wr := HB3.out.trans (htk.below (fun m hm => by rw [List.mem_singleton] at hm; omega) (by omega))
      replace hbw0 := hbw0.trans (hbw.mono hs0)
      replace hcd := (hbw0.cell (p := ⟨cb, _, none⟩) hclt).trans hcd
      have hcw : wr.cell? ⟨w1.heap.size, us.length * 5 + r, none⟩ = some (.bool (way p.wires us.length r)) := (World.cell?_of_block (w := w2) (a := ⟨w1.heap.size, _, none⟩) (htk.block w1.heap.size (by omega) (by simp; omega))).trans (HC2.out us.length (by omega))
      obtain ⟨qc, _, _, _, qf⟩ := hq.cs
      have hown0 := hq.own
      have HQ : Hid (QP w0.heap.size w2 wr p (fun i => way p.wires i r) wz.heap.size (.slice sa p.spans.length sc) (.slice wa p.wires.length wc') (.slice vo vn vk) us) := hq
      have HCY : Hid (p.code[us.length]? = some c) := hcy
      have HOP : Hid (Ops wr (.slice ua c.length ug) c) := hops.all hbw0
      have HOL : Hid (∀ g, (Value.slice ua c.length ug).ownBlock = some g → g < w0.heap.size) := hops.lt (HNE.out c (List.mem_of_getElem? hcy))
      have hr5i : (r : Int) < 5 := by omega
      have hl5i : (us.length : Int) < 5 := by omega
      have hl5 : us.length < 5 := by omega
      clear hops hcy hq htk hbw hbw0
      cases hway : way p.wires us.length r with
      | true =>
        rw [hway] at hcw
        have HWY : Hid (way p.wires us.length r = true) := hway
        clear hway
        go_wp2_with (at_builtin; refine wpList_append_at _ rfl _ _ 22 rfl w2.heap.size 51 jj _ 1 24 Tryz.underlying22 hj hy0 hy1 hy2 rfl (by decide) _ _ _ rfl (hown0.alloc _) ⟨wr.heap.size, 0, none⟩ 1 1 [.slice ua c.length ug] rfl rfl ?c1A ?c2A ?c3A ?c4A ?c5A ?_)
        case c1A => exact one_new_at rfl _ _
        case c2A => intro u hu; simp at hu; subst hu; rfl
        case c3A => unfold maxLen; omega
        case c4A => omega
        case c5A => simp; omega
        intro v1 w8 own8 hg8 hnw8
        have hk8 : w8.heap[wz.heap.size]? = wr.heap[wz.heap.size]? := (hg8.block wz.heap.size (by simp; omega) (fun e => by have := (hown0.lt wz.heap.size e.symm).1; omega)).trans (((Below.refl wr.heap.size wr).alloc (Nat.le_refl _) _).block _ (by omega))
        have s8 : w8.cell? ⟨wz.heap.size, 0, none⟩ = some (.slice vo vn vk) := (World.cell?_of_block (w := wr) (a := ⟨wz.heap.size, 0, none⟩) hk8).trans qc
        have g8 : w8.frozen? ⟨wz.heap.size, 0, none⟩ = false := (World.frozen?_of_block (w := wr) (a := ⟨wz.heap.size, 0, none⟩) hk8).trans qf
        have HM : Hid (QP w0.heap.size w2 (w8.setCell ⟨wz.heap.size, 0, none⟩ v1) p (fun i => way p.wires i r) wz.heap.size (.slice sa p.spans.length sc) (.slice wa p.wires.length wc') v1 (us ++ [.slice ua c.length ug])) := HQ.out.more HCY.out (Below.refl _ _) (by simp only [HWY.out, if_true]; exact HOP.out) (fun g hg => ⟨Or.inl (HOL.out g hg), by have := HOL.out g hg; omega⟩) hg8 own8 (fun g hg => by have := hnw8 g hg; simpa using this)
        obtain ⟨gb, cap8, rfl⟩ := own_succ own8
        clear own8 hg8 hnw8 hown0 hk8
        go_wp2
        go_roundw
        case rel => exact ⟨us ++ [.slice ua c.length ug], _, by rw [List.length_append, List.length_singleton]; go_num, HM.out⟩
        case measure => simp [intOf]; omega
      | false =>
        rw [hway] at hcw
        have HWY : Hid (way p.wires us.length r = false) := hway
        have hnk : wr.heap.size ≠ wz.heap.size := by omega
        have qc2 : (wr.alloc (.cells #[.int .i64 10, .int .i64 0, .int .i64 0] 58)).cell? ⟨wz.heap.size, 0, none⟩ = some (.slice vo vn vk) := (((Below.refl wr.heap.size wr).alloc (Nat.le_refl _) _).cell (p := ⟨wz.heap.size, 0, none⟩) (show wz.heap.size < wr.heap.size by omega)).trans qc
        clear hway
        go_wp2_with (at_builtin; refine wpList_append_at _ rfl _ _ 22 rfl w2.heap.size 51 jj _ 1 24 Tryz.underlying22 hj hy0 hy1 hy2 rfl (by decide) _ _ _ rfl ((hown0.alloc _).alloc _) ⟨wr.heap.size + 1, 0, none⟩ 1 1 [.slice (some ⟨wr.heap.size, 0, none⟩) 1 1] rfl rfl ?c1A ?c2A ?c3A ?c4A ?c5A ?_)
        case c1A => exact one_new_at (by simp) _ _
        case c2A => intro u hu; simp at hu; subst hu; rfl
        case c3A => unfold maxLen; omega
        case c4A => omega
        case c5A => simp; omega
        intro v1 w8 own8 hg8 hnw8
        have hk8 : w8.heap[wz.heap.size]? = wr.heap[wz.heap.size]? := (hg8.block wz.heap.size (by simp; omega) (fun e => by have := (hown0.lt wz.heap.size e.symm).1; omega)).trans ((((Below.refl wr.heap.size wr).alloc (Nat.le_refl _) _).alloc (by simp) _).block _ (by omega))
        have s8 : w8.cell? ⟨wz.heap.size, 0, none⟩ = some (.slice vo vn vk) := (World.cell?_of_block (w := wr) (a := ⟨wz.heap.size, 0, none⟩) hk8).trans qc
        have g8 : w8.frozen? ⟨wz.heap.size, 0, none⟩ = false := (World.frozen?_of_block (w := wr) (a := ⟨wz.heap.size, 0, none⟩) hk8).trans qf
        have HM : Hid (QP w0.heap.size w2 (w8.setCell ⟨wz.heap.size, 0, none⟩ v1) p (fun i => way p.wires i r) wz.heap.size (.slice sa p.spans.length sc) (.slice wa p.wires.length wc') v1 (us ++ [.slice (some ⟨wr.heap.size, 0, none⟩) 1 1])) := HQ.out.more HCY.out ((Below.refl _ _).alloc (Nat.le_refl _) _) (by simp only [HWY.out, Bool.false_eq_true, if_false]; exact rest_ops rfl) (fun g hg => by simp only [Value.ownBlock, Option.some.injEq] at hg; subst hg; exact ⟨Or.inr (Nat.le_refl _), by simp⟩) hg8 own8 (fun g hg => by have := hnw8 g hg; simpa using this)
        obtain ⟨gb, cap8, rfl⟩ := own_succ own8
        clear own8 hg8 hnw8 hown0 hk8
        go_wp2
        go_roundw
        case rel => exact ⟨us ++ [.slice (some ⟨wr.heap.size, 0, none⟩) 1 1], _, by rw [List.length_append, List.length_singleton]; go_num, HM.out⟩
        case measure => simp [intOf]; omega
    · have hul : us.length = p.code.length := by omega
      have hki : decide ((us.length : Int) < (p.code.length : Int)) = false := decide_eq_false (by omega)
      have hki' : decide (us.length < p.code.length) = false := decide_eq_false (by omega)
      obtain ⟨q0, q1, q2, q3, _⟩ := hq.cs
      have hbk : ∀ j, wr.cell? ⟨w.heap.size + 1, j, none⟩ = w2.cell? ⟨w.heap.size + 1, j, none⟩ ∧ wr.frozen? ⟨w.heap.size + 1, j, none⟩ = w2.frozen? ⟨w.heap.size + 1, j, none⟩ := fun j => ⟨World.cell?_of_block (w := w2) (a := ⟨w.heap.size + 1, j, none⟩) (htk.block (w.heap.size + 1) (by omega) (by simp; omega)), World.frozen?_of_block (w := w2) (a := ⟨w.heap.size + 1, j, none⟩) (htk.block (w.heap.size + 1) (by omega) (by simp; omega))⟩
      obtain ⟨z0, z1, z2, z3, y0, y1, y2, y3⟩ := HZ.out
      replace z0 := ((hbk 0).1.trans (HZ2.out 0).1).trans z0
      replace z1 := ((hbk 1).1.trans (HZ2.out 1).1).trans z1
      replace z2 := ((hbk 2).1.trans (HZ2.out 2).1).trans z2
      replace z3 := ((hbk 3).1.trans (HZ2.out 3).1).trans z3
      replace y0 := ((hbk 0).2.trans (HZ2.out 0).2).trans y0
      replace y1 := ((hbk 1).2.trans (HZ2.out 1).2).trans y1
      replace y2 := ((hbk 2).2.trans (HZ2.out 2).2).trans y2
      replace y3 := ((hbk 3).2.trans (HZ2.out 3).2).trans y3
      have hbw : Below w.heap.size w wr := HB3.out.trans (htk.below (fun m hm => by rw [List.mem_singleton] at hm; omega) (by omega))
      have HQ : Hid (QP w0.heap.size w2 wr p (fun i => way p.wires i r) wz.heap.size (.slice sa p.spans.length sc) (.slice wa p.wires.length wc') (.slice vo vn vk) us) := hq
      have hne : wz.heap.size ≠ w.heap.size + 1 := by omega
      clear hq htk hbk
      go_wp2
      refine bodyPost_ret (v := plV (.slice vo vn vk) p.ticks (.slice sa p.spans.length sc) (.slice wa p.wires.length wc')) ?_ rfl ⟨.slice vo vn vk, rfl, ?_, ?_⟩
      · simp [results, Tryz.results5, go_sem, plV, z0, z1, z2, z3]
      · intro M W' htM hM
        have htk : KTouch [w.heap.size + 1] wr ((((wr.setCell ⟨w.heap.size + 1, 0, none⟩ (.slice vo vn vk)).setCell ⟨w.heap.size + 1, 1, none⟩ (.int .i64 p.ticks)).setCell ⟨w.heap.size + 1, 2, none⟩ (.slice sa p.spans.length sc)).setCell ⟨w.heap.size + 1, 3, none⟩ (.slice wa p.wires.length wc')) :=
          (((KTouch.set wr (by simp) 0 _).trans (KTouch.set _ (by simp) 1 _)).trans (KTouch.set _ (by simp) 2 _)).trans (KTouch.set _ (by simp) 3 _)
        have htt : KTouch ((w.heap.size + 1) :: M) wr W' := (htk.mono (fun m hm => by rw [List.mem_singleton] at hm; simp [hm])).trans (htM.mono (fun m hm => by simp [hm]))
        have hMM : ∀ m ∈ (w.heap.size + 1) :: M, w0.heap.size ≤ m ∧ m < w2.heap.size := fun m hm => by
          rcases List.mem_cons.1 hm with h | h
          · omega
          · have := hM m h
            omega
        have hb4 : Below w0.heap.size w0 W' := (HB0.out.trans (hbw.mono hs0)).trans (htt.below (fun m hm => (hMM m hm).1) (by omega))
        exact ⟨HQ.out.cds hul htt hMM, HP0.out.spans.all hb4, HP0.out.wires.all hb4⟩
      · exact (((hbw.setCell (p := ⟨w.heap.size + 1, 0, none⟩) (Nat.le_succ _) _).setCell (p := ⟨w.heap.size + 1, 1, none⟩) (Nat.le_succ _) _).setCell (p := ⟨w.heap.size + 1, 2, none⟩) (Nat.le_succ _) _).setCell (p := ⟨w.heap.size + 1, 3, none⟩) (Nat.le_succ _) _
end Go.Proofs.YtfconbblnmbnpaeGreatDoor
namespace Go.Proofs.YtfconbblnmbnpaeGreatDoor
open Go.RowKit

theorem fieldsOp : Tryz.prog.underlying 58 = some (.struct (Tryz.prog.fieldsOf 58)) := by kernel_rfl
theorem stoodOp : Tryz.prog.stoodInHeld 58 = false := by kernel_rfl
theorem fieldsOpIs : Tryz.prog.fieldsOf 58 = #[{ name := "What", type := 3, offset := 0, embedded := false, tag := "", pkgPath := "", byteOffset := 0 }, { name := "A", type := 3, offset := 1, embedded := false, tag := "", pkgPath := "", byteOffset := 8 }, { name := "B", type := 3, offset := 2, embedded := false, tag := "", pkgPath := "", byteOffset := 16 }] := by kernel_rfl
theorem guardOp : Tryz.prog.eqGuardType Tryz.prog.depth 58 = false := by kernel_rfl
theorem neq_op (x y : O3) (w : World) : (binOp .neq 58 (.agg #[.int .i64 x.1, .int .i64 x.2.1, .int .i64 x.2.2]) (.agg #[.int .i64 y.1, .int .i64 y.2.1, .int .i64 y.2.2])).run Tryz.prog w = .ok (.bool (!(decide (x = y)))) w := by
  rw [run_neq_struct, run_equalIn_agg _ _ _ _ _ fieldsOp stoodOp, fieldsOpIs]
  obtain ⟨a, b, c⟩ := x
  obtain ⟨a', b', c'⟩ := y
  simp [go_sem, Tryz.underlying3]
  by_cases h1 : a = a' <;> by_cases h2 : b = b' <;> by_cases h3 : c = c' <;> simp [h1, h2, h3]

set_option maxRecDepth 1000000 in
set_option maxHeartbeats 4000000 in
theorem same_some (la lb : List O3) (a ao ac b bo bc : Nat) (w : World) (ha : a < w.heap.size) (hb : b < w.heap.size) (hlen : la.length = lb.length) (hl : la.length ≤ 1099511627776)
    (hca : ∀ (i : Nat) o, la[i]? = some o → w.cell? ⟨a, ao + i * 3, none⟩ = some (.int .i64 o.1) ∧ w.cell? ⟨a, ao + i * 3 + 1, none⟩ = some (.int .i64 o.2.1) ∧ w.cell? ⟨a, ao + i * 3 + 2, none⟩ = some (.int .i64 o.2.2))
    (hcb : ∀ (i : Nat) o, lb[i]? = some o → w.cell? ⟨b, bo + i * 3, none⟩ = some (.int .i64 o.1) ∧ w.cell? ⟨b, bo + i * 3 + 1, none⟩ = some (.int .i64 o.2.1) ∧ w.cell? ⟨b, bo + i * 3 + 2, none⟩ = some (.int .i64 o.2.2)) :
    Calls Tryz.prog 23 #[.slice (some ⟨a, ao, none⟩) la.length ac, .slice (some ⟨b, bo, none⟩) la.length bc] w fun e w' => e = .returned (.bool (decide (la = lb))) ∧ Below w.heap.size w w' := by
  have HL : Hid (la.length = lb.length) := hlen
  clear hlen
  go_enter Tryz.func23, Tryz.ntmps23
  go_wp2
  go_loopw [5] (fun i wr => ∃ k : Nat, k ≤ la.length ∧ i = .int .i64 k ∧ (∀ j : Nat, j < k → la[j]? = lb[j]?) ∧ Below w.heap.size w wr) (fun i _ => la.length - (intOf i).toNat)
  case atStart => exact ⟨0, Nat.zero_le _, rfl, fun j hj => by omega, Below.refl _ _⟩
  case round =>
    obtain ⟨k, hk, rfl, hall, hbw⟩ := hrel
    have HA : Hid (∀ j : Nat, j < k → la[j]? = lb[j]?) := hall
    clear hall
    by_cases hkl : k < la.length
    · obtain ⟨o, ho⟩ : ∃ o, la[k]? = some o := ⟨la[k], List.getElem?_eq_getElem hkl⟩
      obtain ⟨p, hp⟩ : ∃ p, lb[k]? = some p := ⟨lb[k]'(by rw [← HL.out]; exact hkl), List.getElem?_eq_getElem _⟩
      obtain ⟨c0, c1, c2⟩ := hca k o ho
      obtain ⟨d0, d1, d2⟩ := hcb k p hp
      have e0 := (hbw.cell (p := ⟨a, ao + k * 3, none⟩) ha).trans c0
      have e1 := (hbw.cell (p := ⟨a, ao + k * 3 + 1, none⟩) ha).trans c1
      have e2 := (hbw.cell (p := ⟨a, ao + k * 3 + 2, none⟩) ha).trans c2
      have f0 := (hbw.cell (p := ⟨b, bo + k * 3, none⟩) hb).trans d0
      have f1 := (hbw.cell (p := ⟨b, bo + k * 3 + 1, none⟩) hb).trans d1
      have f2 := (hbw.cell (p := ⟨b, bo + k * 3 + 2, none⟩) hb).trans d2
      have HO : Hid (la[k]? = some o) := ho
      have HP : Hid (lb[k]? = some p) := hp
      clear c0 c1 c2 d0 d1 d2 ho hp
      have hki : (k : Int) < (la.length : Int) := by omega
      have hgd := guardOp
      have hnq := neq_op o p
      by_cases hop : o = p
      · have hdd : decide (o = p) = true := by simpa using hop
        rw [hdd] at hnq
        have HE : Hid (o = p) := hop
        clear hop hdd
        go_wp2
        go_quiet (fail)
        go_wp2
        go_roundw
        case rel =>
          refine ⟨k + 1, by omega, by go_num, fun j hj => ?_, below_drewN hbw _⟩
          by_cases hjk : j < k
          · exact HA.out j hjk
          · obtain rfl : j = k := by omega
            rw [HO.out, HP.out, HE.out]
        case measure => simp [intOf]; omega
      · have hdd : decide (o = p) = false := by simpa using hop
        rw [hdd] at hnq
        have HN : Hid (decide (la = lb) = false) := by
          show _ = _
          simp only [decide_eq_false_iff_not]
          intro e
          have h1 := HO.out
          rw [e, HP.out] at h1
          exact hop (Option.some.inj h1).symm
        clear hop hdd
        go_wp2
        go_quiet (fail)
        go_wp2
        go_ret
        exact ⟨ret_bool HN.out.symm, below_drewN hbw _⟩
    · have HN : Hid (decide (la = lb) = true) := by
        show _ = _
        simp only [decide_eq_true_eq]
        apply List.ext_getElem?
        intro j
        by_cases hj : j < k
        · exact HA.out j hj
        · rw [List.getElem?_eq_none (by omega), List.getElem?_eq_none (by rw [← HL.out]; omega)]
      go_wp2
      go_ret
      exact ⟨ret_bool HN.out.symm, hbw⟩

set_option maxRecDepth 1000000 in
set_option maxHeartbeats 4000000 in
theorem same_other (n m ac bc : Nat) (a b : Option Addr) (w : World) (h : ((n : Int) == (m : Int)) = false) :
    Calls Tryz.prog 23 #[.slice a n ac, .slice b m bc] w fun e w' => e = .returned (.bool false) ∧ Below w.heap.size w w' := by
  go_enter Tryz.func23, Tryz.ntmps23
  go_wp2
  go_ret
  exact ⟨rfl, Below.refl _ _⟩
set_option maxRecDepth 1000000 in
set_option maxHeartbeats 4000000 in
theorem same_nil (ac bc : Nat) (a b : Option Addr) (w : World) :
    Calls Tryz.prog 23 #[.slice a 0 ac, .slice b 0 bc] w fun e w' => e = .returned (.bool true) ∧ Below w.heap.size w w' := by
  go_enter Tryz.func23, Tryz.ntmps23
  go_wp2
  refine wp_loop_rounds 1 ?_
  rw [rounds_succ]
  go_wp2
  go_ret
  exact ⟨rfl, Below.refl _ _⟩
theorem same_any (va vb : Value) (la lb : List O3) (w : World) (ha : Ops w va la) (hb : Ops w vb lb) (hl : la.length ≤ 1099511627776) :
    Calls Tryz.prog 23 #[va, vb] w fun e w' => e = .returned (.bool (decide (la = lb))) ∧ Below w.heap.size w w' := by
  by_cases hlen : la.length = lb.length
  · rcases ha with ⟨rfl, ao, ac, rfl⟩ | ⟨a, ao, ac, rfl, hlta, hca⟩
    · have hlb : lb = [] := List.eq_nil_of_length_eq_zero (by simpa using hlen.symm)
      subst hlb
      obtain ⟨bo, bc, hvb⟩ := hb.form
      rw [hvb]
      exact same_nil ac bc ao bo w
    · rcases hb with ⟨rfl, bo, bc, rfl⟩ | ⟨b, bo, bc, rfl, hltb, hcb⟩
      · have hla : la = [] := List.eq_nil_of_length_eq_zero (by simpa using hlen)
        subst hla
        exact same_nil ac bc _ bo w
      · rw [← hlen]
        exact same_some la lb a ao ac b bo bc w hlta hltb hlen hl hca hcb
  · obtain ⟨ao, ac, rfl⟩ := ha.form
    obtain ⟨bo, bc, rfl⟩ := hb.form
    rw [show decide (la = lb) = false by simp only [decide_eq_false_iff_not]; intro e; exact hlen (by rw [e])]
    exact same_other _ _ _ _ _ _ w (by simp; omega)
end Go.Proofs.YtfconbblnmbnpaeGreatDoor
namespace Go.Proofs.YtfconbblnmbnpaeGreatDoor
open Go.RowKit

theorem fieldsSp : Tryz.prog.underlying 47 = some (.struct (Tryz.prog.fieldsOf 47)) := by kernel_rfl
theorem stoodSp : Tryz.prog.stoodInHeld 47 = false := by kernel_rfl
theorem fieldsSpIs : Tryz.prog.fieldsOf 47 = #[{ name := "From", type := 3, offset := 0, embedded := false, tag := "", pkgPath := "", byteOffset := 0 }, { name := "To", type := 3, offset := 1, embedded := false, tag := "", pkgPath := "", byteOffset := 8 }, { name := "Room", type := 3, offset := 2, embedded := false, tag := "", pkgPath := "", byteOffset := 16 }] := by kernel_rfl
theorem guardSp : Tryz.prog.eqGuardType Tryz.prog.depth 47 = false := by kernel_rfl
theorem neq_sp (a b c : Int) (w : World) : (binOp .neq 47 (.agg #[.int .i64 a, .int .i64 b, .int .i64 c]) (.agg #[.int .i64 a, .int .i64 b, .int .i64 c])).run Tryz.prog w = .ok (.bool false) w := by
  rw [run_neq_struct, run_equalIn_agg _ _ _ _ _ fieldsSp stoodSp, fieldsSpIs]
  simp [go_sem, Tryz.underlying3]
theorem fieldsWr : Tryz.prog.underlying 49 = some (.struct (Tryz.prog.fieldsOf 49)) := by kernel_rfl
theorem stoodWr : Tryz.prog.stoodInHeld 49 = false := by kernel_rfl
theorem fieldsWrIs : Tryz.prog.fieldsOf 49 = #[{ name := "From", type := 3, offset := 0, embedded := false, tag := "", pkgPath := "", byteOffset := 0 }, { name := "To", type := 3, offset := 1, embedded := false, tag := "", pkgPath := "", byteOffset := 8 }, { name := "Kind", type := 3, offset := 2, embedded := false, tag := "", pkgPath := "", byteOffset := 16 }, { name := "Deep", type := 3, offset := 3, embedded := false, tag := "", pkgPath := "", byteOffset := 24 }] := by kernel_rfl
theorem guardWr : Tryz.prog.eqGuardType Tryz.prog.depth 49 = false := by kernel_rfl
theorem neq_wr (a b c d : Int) (w : World) : (binOp .neq 49 (.agg #[.int .i64 a, .int .i64 b, .int .i64 c, .int .i64 d]) (.agg #[.int .i64 a, .int .i64 b, .int .i64 c, .int .i64 d])).run Tryz.prog w = .ok (.bool false) w := by
  rw [run_neq_struct, run_equalIn_agg _ _ _ _ _ fieldsWr stoodWr, fieldsWrIs]
  simp [go_sem, Tryz.underlying3]
/-- Behind the boxes of two plans. -/
def Bx2 (w W : World) (x0 : Value) (n : Int) (x2 x3 : Value) (y0 y2 y3 : Value) : Prop := Below (w.heap.size + 2) ((w.alloc (.cells #[x0, .int .i64 n, x2, x3] 26)).alloc (.cells #[y0, .int .i64 n, y2, y3] 26)) W
theorem Bx2.size {w W : World} {x0 x2 x3 y0 y2 y3 : Value} {n : Int} (h : Bx2 w W x0 n x2 x3 y0 y2 y3) : w.heap.size + 2 ≤ W.heap.size := by
  have := Below.size h
  simpa using this
theorem Bx2.step {w W W' : World} {x0 x2 x3 y0 y2 y3 : Value} {n : Int} (h : Bx2 w W x0 n x2 x3 y0 y2 y3) (hb : Below W.heap.size W W') : Bx2 w W' x0 n x2 x3 y0 y2 y3 := Below.trans h (hb.mono h.size)
theorem Bx2.dN {w W : World} {x0 x2 x3 y0 y2 y3 : Value} {n : Int} (h : Bx2 w W x0 n x2 x3 y0 y2 y3) (k : Nat) : Bx2 w (W.drewN k) x0 n x2 x3 y0 y2 y3 := below_dN h k
theorem Bx2.below {w W : World} {x0 x2 x3 y0 y2 y3 : Value} {n : Int} (h : Bx2 w W x0 n x2 x3 y0 y2 y3) : Below w.heap.size w W := (((Below.refl _ _).alloc (Nat.le_refl _) _).alloc (by simp) _).trans (Below.mono h (by omega))
theorem Bx2.c {w W : World} {x0 x2 x3 y0 y2 y3 : Value} {n : Int} (h : Bx2 w W x0 n x2 x3 y0 y2 y3) : W.cell? ⟨w.heap.size, 0, none⟩ = some x0 ∧ W.cell? ⟨w.heap.size, 2, none⟩ = some x2 ∧ W.cell? ⟨w.heap.size, 3, none⟩ = some x3 ∧ W.cell? ⟨w.heap.size + 1, 0, none⟩ = some y0 ∧ W.cell? ⟨w.heap.size + 1, 2, none⟩ = some y2 ∧ W.cell? ⟨w.heap.size + 1, 3, none⟩ = some y3 :=
  ⟨(Below.cell h (p := ⟨w.heap.size, 0, none⟩) (by simp)).trans (by simp), (Below.cell h (p := ⟨w.heap.size, 2, none⟩) (by simp)).trans (by simp), (Below.cell h (p := ⟨w.heap.size, 3, none⟩) (by simp)).trans (by simp), (Below.cell h (p := ⟨w.heap.size + 1, 0, none⟩) (by simp)).trans (by simp), (Below.cell h (p := ⟨w.heap.size + 1, 2, none⟩) (by simp)).trans (by simp), (Below.cell h (p := ⟨w.heap.size + 1, 3, none⟩) (by simp)).trans (by simp)⟩

set_option maxRecDepth 1000000 in
set_option maxHeartbeats 8000000 in
theorem sameplan_any (p : PD) (xc xs xw yc ys yw : Value) (w : World) (hx : Pln w xc xs xw p) (hy : Pln w yc ys yw p) (l1 : p.code.length ≤ 1000) (l2 : p.spans.length ≤ 1000) (l3 : p.wires.length ≤ 1000) (l4 : ∀ c ∈ p.code, c.length ≤ 1000) :
    Calls Tryz.prog 8 #[plV xc p.ticks xs xw, plV yc p.ticks ys yw] w fun e w' => e = .returned (.bool true) ∧ Below w.heap.size w w' := by
  obtain ⟨xa, xb, rfl⟩ := hx.code.form
  obtain ⟨xd, xe, rfl⟩ := hx.spans.form
  obtain ⟨xf, xg, rfl⟩ := hx.wires.form
  obtain ⟨ya, yb, rfl⟩ := hy.code.form
  obtain ⟨yd, ye, rfl⟩ := hy.spans.form
  obtain ⟨yf, yg, rfl⟩ := hy.wires.form
  have HX : Hid (Pln w (.slice xa p.code.length xb) (.slice xd p.spans.length xe) (.slice xf p.wires.length xg) p) := hx
  have HY : Hid (Pln w (.slice ya p.code.length yb) (.slice yd p.spans.length ye) (.slice yf p.wires.length yg) p) := hy
  have HL : Hid (∀ c ∈ p.code, c.length ≤ 1000) := l4
  clear hx hy l4
  unfold plV
  have hb0 : Bx2 w _ (.slice xa p.code.length xb) p.ticks (.slice xd p.spans.length xe) (.slice xf p.wires.length xg) (.slice ya p.code.length yb) (.slice yd p.spans.length ye) (.slice yf p.wires.length yg) := Below.refl _ _
  go_enter Tryz.func8, Tryz.ntmps8
  go_wp2
  go_loopw [5] (fun i wr => ∃ k : Nat, k ≤ p.code.length ∧ i = .int .i64 k ∧ Bx2 w wr (.slice xa p.code.length xb) p.ticks (.slice xd p.spans.length xe) (.slice xf p.wires.length xg) (.slice ya p.code.length yb) (.slice yd p.spans.length ye) (.slice yf p.wires.length yg)) (fun i _ => p.code.length - (intOf i).toNat)
  case atStart => exact ⟨0, Nat.zero_le _, rfl, hb0⟩
  case round =>
  clear hb0
  obtain ⟨k, hk, rfl, hB⟩ := hrel
  obtain ⟨i0, i2, i3, j0, j2, j3⟩ := hB.c
  by_cases hkl : k < p.code.length
  · have hki : (k : Int) < (p.code.length : Int) := by omega
    obtain ⟨b, off, u, n, g, c, rfl, hlt, hc, d0, hn, ho⟩ := HX.out.code.at hkl
    obtain ⟨b', off', u', n', g', c', rfl, hlt', hc', d0', hn', ho'⟩ := HY.out.code.at hkl
    obtain rfl : c = c' := Option.some.inj (hc.symm.trans hc')
    replace d0 := (hB.below.cell (p := ⟨b, _, none⟩) hlt).trans d0
    replace d0' := (hB.below.cell (p := ⟨b', _, none⟩) hlt').trans d0'
    have q1 := same_any (.slice u n g) (.slice u' n' g') c c wr.drew ((ho.all hB.below).all (Below.refl _ _).drew) ((ho'.all hB.below).all (Below.refl _ _).drew) (by have := HL.out c (List.mem_of_getElem? hc); omega)
    rw [decide_eq_true rfl] at q1
    clear hc hc' hn hn' ho ho' i2 i3 j2 j3
    go_wp2
    go_region_with (go_at_call 23; refine q1.mono ?_; rintro e w1 ⟨rfl, b1⟩)
    all_goals (
      go_wp2
      go_roundw
      case rel => exact ⟨k + 1, by omega, by go_num, hB.step (((Below.refl _ wr).drew).trans b1)⟩
      case measure => simp [intOf]; omega)
  have hki : decide ((k : Int) < (p.code.length : Int)) = false := decide_eq_false (by omega)
  have hkn : decide (k < p.code.length) = false := decide_eq_false (by omega)
  go_wp2
  rename World => wo
  go_loopw [7] (fun i wr => ∃ k : Nat, k ≤ p.spans.length ∧ i = .int .i64 k ∧ Bx2 w wr (.slice xa p.code.length xb) p.ticks (.slice xd p.spans.length xe) (.slice xf p.wires.length xg) (.slice ya p.code.length yb) (.slice yd p.spans.length ye) (.slice yf p.wires.length yg)) (fun i _ => p.spans.length - (intOf i).toNat)
  case atStart => exact ⟨0, Nat.zero_le _, rfl, hB⟩
  case round =>
  clear hB i0 i2 i3 j0 j2 j3 hkl hki hkn hk
  obtain ⟨k, hk, rfl, hB⟩ := hrel
  obtain ⟨i0, i2, i3, j0, j2, j3⟩ := hB.c
  by_cases hkl : k < p.spans.length
  · have hki : (k : Int) < (p.spans.length : Int) := by omega
    obtain ⟨b, off, f, t, r, rfl, hlt, hc, d0, d1, d2⟩ := HX.out.spans.at hkl
    obtain ⟨b', off', f', t', r', rfl, hlt', hc', d0', d1', d2'⟩ := HY.out.spans.at hkl
    obtain ⟨rfl, rfl, rfl⟩ : f = f' ∧ t = t' ∧ r = r' := by have := Option.some.inj (hc.symm.trans hc'); simpa using this
    replace d0 := (hB.below.cell (p := ⟨b, _, none⟩) hlt).trans d0
    replace d1 := (hB.below.cell (p := ⟨b, _, none⟩) hlt).trans d1
    replace d2 := (hB.below.cell (p := ⟨b, _, none⟩) hlt).trans d2
    replace d0' := (hB.below.cell (p := ⟨b', _, none⟩) hlt').trans d0'
    replace d1' := (hB.below.cell (p := ⟨b', _, none⟩) hlt').trans d1'
    replace d2' := (hB.below.cell (p := ⟨b', _, none⟩) hlt').trans d2'
    have hgd := guardSp
    have hnq := neq_sp f t r
    clear hc hc' i0 i3 j0 j3
    go_wp2
    go_quiet (fail)
    go_wp2
    go_roundw
    case rel => exact ⟨k + 1, by omega, by go_num, hB.dN _⟩
    case measure => simp [intOf]; omega
  have hki : decide ((k : Int) < (p.spans.length : Int)) = false := decide_eq_false (by omega)
  have hkn : decide (k < p.spans.length) = false := decide_eq_false (by omega)
  go_wp2
  rename World => wp
  go_loopw [8] (fun i wr => ∃ k : Nat, k ≤ p.wires.length ∧ i = .int .i64 k ∧ Bx2 w wr (.slice xa p.code.length xb) p.ticks (.slice xd p.spans.length xe) (.slice xf p.wires.length xg) (.slice ya p.code.length yb) (.slice yd p.spans.length ye) (.slice yf p.wires.length yg)) (fun i _ => p.wires.length - (intOf i).toNat)
  case atStart => exact ⟨0, Nat.zero_le _, rfl, hB⟩
  case round =>
  clear hB i0 i2 i3 j0 j2 j3 hkl hki hkn hk
  obtain ⟨k, hk, rfl, hB⟩ := hrel
  obtain ⟨i0, i2, i3, j0, j2, j3⟩ := hB.c
  by_cases hkl : k < p.wires.length
  · have hki : (k : Int) < (p.wires.length : Int) := by omega
    obtain ⟨b, off, f, t, kd, d, rfl, hlt, hc, d0, d1, d2, d3⟩ := HX.out.wires.at hkl
    obtain ⟨b', off', f', t', kd', d', rfl, hlt', hc', d0', d1', d2', d3'⟩ := HY.out.wires.at hkl
    obtain ⟨rfl, rfl, rfl, rfl⟩ : f = f' ∧ t = t' ∧ kd = kd' ∧ d = d' := by have := Option.some.inj (hc.symm.trans hc'); simpa using this
    replace d0 := (hB.below.cell (p := ⟨b, _, none⟩) hlt).trans d0
    replace d1 := (hB.below.cell (p := ⟨b, _, none⟩) hlt).trans d1
    replace d2 := (hB.below.cell (p := ⟨b, _, none⟩) hlt).trans d2
    replace d3 := (hB.below.cell (p := ⟨b, _, none⟩) hlt).trans d3
    replace d0' := (hB.below.cell (p := ⟨b', _, none⟩) hlt').trans d0'
    replace d1' := (hB.below.cell (p := ⟨b', _, none⟩) hlt').trans d1'
    replace d2' := (hB.below.cell (p := ⟨b', _, none⟩) hlt').trans d2'
    replace d3' := (hB.below.cell (p := ⟨b', _, none⟩) hlt').trans d3'
    have hgd := guardWr
    have hnq := neq_wr f t kd d
    clear hc hc' i0 i2 j0 j2
    go_wp2
    go_quiet (fail)
    go_wp2
    go_roundw
    case rel => exact ⟨k + 1, by omega, by go_num, hB.dN _⟩
    case measure => simp [intOf]; omega
  have hki : decide ((k : Int) < (p.wires.length : Int)) = false := decide_eq_false (by omega)
  have hkn : decide (k < p.wires.length) = false := decide_eq_false (by omega)
  go_wp2
  go_ret
  exact ⟨rfl, hB.below⟩
end Go.Proofs.YtfconbblnmbnpaeGreatDoor
namespace Go.Proofs.YtfconbblnmbnpaeGreatDoor
open Go.RowKit

/-- States in a row that can be read. -/
def StL (w : World) (v : Value) (l : List St) : Prop :=
  (l = [] ∧ ∃ ao cap, v = .slice ao 0 cap) ∨ ∃ b off cap, v = .slice (some ⟨b, off, none⟩) l.length cap ∧ l.length ≤ cap ∧ b < w.heap.size ∧ ∀ (i : Nat) s, l[i]? = some s → StC w b (off + i * 8) s
theorem StL.form {w : World} {v : Value} {l : List St} (h : StL w v l) : ∃ ao cap, v = .slice ao l.length cap := by
  rcases h with ⟨rfl, ao, cap, rfl⟩ | ⟨b, off, cap, rfl, _⟩
  · exact ⟨ao, cap, rfl⟩
  · exact ⟨_, cap, rfl⟩
theorem StL.all {w w' : World} {v : Value} {l : List St} (h : StL w v l) (hb : Below w.heap.size w w') : StL w' v l := by
  rcases h with h | ⟨b, off, cap, rfl, hcap, hlt, hc⟩
  · exact Or.inl h
  · exact Or.inr ⟨b, off, cap, rfl, hcap, Nat.lt_of_lt_of_le hlt hb.size, fun i s hi => (hc i s hi).block (hb.block b hlt)⟩
theorem StL.own {w : World} {base : Nat} {v : Value} {l : List St} (h : w.ownsRow base 39 8 v l.length (stCells l)) : StL w v l := by
  have hl := h.lt
  have hcs := @World.ownsRow.cells _ _ _ _ _ _ _ h
  rcases h.2 with ⟨rfl, h0⟩ | ⟨g, cap, cur, rfl, _, _, hcap, _⟩
  · exact Or.inl ⟨List.eq_nil_of_length_eq_zero h0, _, _, rfl⟩
  · have hat : ∀ j u, (stCells l)[j]? = some u → w.cell? ⟨g, j, none⟩ = some u := fun j u hu => by
      have := hcs rfl j u hu
      rwa [Addr.add_lit, Nat.zero_add] at this
    refine Or.inr ⟨g, 0, cap, rfl, hcap, (hl g rfl).2, fun i s hs => ?_⟩
    obtain ⟨q0, q1, q2, q3, q4, q5, q6, q7⟩ := stCells_at l i s hs
    rw [Nat.zero_add]
    exact ⟨hat _ _ q0, hat _ _ q1, hat _ _ q2, hat _ _ q3, hat _ _ q4, hat _ _ q5, hat _ _ q6, hat _ _ q7⟩
end Go.Proofs.YtfconbblnmbnpaeGreatDoor
namespace Go.Proofs.YtfconbblnmbnpaeGreatDoor
open Go.RowKit

/-- Run: the states of a room of a new kernel. -/
def SgtRun (G : World → Prop) : Prop := ∀ (p : PD) (vc vs vw : Value) (n r : Int) (W : World), G W → Pln W vc vs vw p → Calls Tryz.prog 26 #[plV vc p.ticks vs vw, .int .i64 n, .int .i64 r] W fun e w' => ∃ v, e = .returned (.tuple #[v, wErr (runE p n r)]) ∧ StL w' v (if runE p n r = 0 then statesK p n.toNat r.toNat else []) ∧ Below W.heap.size W w'
end Go.Proofs.YtfconbblnmbnpaeGreatDoor
