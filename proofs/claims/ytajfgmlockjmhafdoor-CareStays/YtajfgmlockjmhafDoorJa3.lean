/-
  RLaid, SgtMath, PurgeM, CareM, CarC, PrgCP, RowL, FlowOwn, OwnTwo, PgClone, RPurge, PlO, CloneOp, GClone, RdL, KerC, CStays0, CStays: joined into one text.
-/
import Derived.Test.YtajfgmlockjmhafDoorJa2
import Derived.ProofKit
import Derived.LaidMore
import Derived.OpenShut
import Derived.Stop.Joined
import Derived.Stop.LaidErr
import Derived.Lib.LaidTab
import Derived.Test.YtajfgmlockjmhafDoorJa1
import Derived.Deep.RegionLaw
import Derived.Deep.RegionWith
import Derived.Lib.SliceRun
import Derived.RangeFuncRecord
import Derived.Deep.CutRange
import Derived.Deep.CutBlock
import Derived.BigQuiet
import Derived.RangeFuncNested
namespace Go.Proofs.YtajfgmlockjmhafDoor
open Go.ChangeShapes Go.WideShapes Go.ChangeAt Go.WideElems Go.RowKit

theorem gForms : Tryd.prog.globalNamed "framekeep/code.forms" = some 1 := by kernel_rfl
theorem tForms : (Tryd.prog.globals[1]?).map (·.type) = some 197 := by kernel_rfl
theorem cStr : Tryd.prog.cellsOf 9 = 1 := by kernel_rfl
theorem cInt : Tryd.prog.cellsOf 3 = 1 := by kernel_rfl
theorem cTwo : Tryd.prog.cellsOf 42 = 2 := by kernel_rfl
theorem cForm : Tryd.prog.cellsOf 196 = 3 := by kernel_rfl

theorem len2 {α : Type} {l : List α} (h : l.length = 2) : ∃ a b, l = [a, b] := by
  match l, h with
  | [a, b], _ => exact ⟨a, b, rfl⟩
theorem len3 {α : Type} {l : List α} (h : l.length = 3) : ∃ a b c, l = [a, b, c] := by
  match l, h with
  | [a, b, c], _ => exact ⟨a, b, c, rfl⟩
theorem two_one {H : Type} {enc : TypeId × Value → H} {w : World} {base : Nat} {sp : Nat → Bool} {held : Bool} {fuel : Nat} {cs : List Value} {p q : Int} {pl : List MemPlace}
    (h : DataW.trod enc Tryd.prog w base sp held fuel 42 cs = some (.agg [.lit (.int .i64 p), .lit (.int .i64 q)], pl)) : cs = [.int .i64 p, .int .i64 q] := by
  have := Lib.cells_of_tab (k := .i64) (zs := [p, q]) Tryd.underlying42 Tryd.underlying3 cInt cTwo h
  simpa using this
theorem form_one {H : Type} {enc : TypeId × Value → H} {w : World} {base : Nat} {sp : Nat → Bool} {held : Bool} {fuel : Nat} {cs : List Value} {s : List UInt8} {p q : Int} {pl : List MemPlace}
    (h : DataW.trod enc Tryd.prog w base sp held fuel 196 cs = some (.agg [.lit (.string s), .agg [.lit (.int .i64 p), .lit (.int .i64 q)]], pl)) : cs = [.string ⟨s.toArray⟩, .int .i64 p, .int .i64 q] := by
  obtain ⟨xs, n, _, hx, hl, hxl, hf⟩ := DataW.trod_struct Tryd.underlying196 h
  rw [cForm] at hl
  have f0 : DataW.trod enc Tryd.prog w base sp held n 9 ((cs.drop 0).take (Tryd.prog.cellsOf 9)) = xs[0]? := hf 0 _ rfl
  have f1 : DataW.trod enc Tryd.prog w base sp held n 42 ((cs.drop 1).take (Tryd.prog.cellsOf 42)) = xs[1]? := hf 1 _ rfl
  rw [cStr] at f0
  rw [cTwo] at f1
  simp only [Prod.mk.injEq, DataW.agg.injEq] at hx
  obtain ⟨c0, c1, c2, rfl⟩ := len3 hl
  have hxl2 : xs.length = 2 := hxl
  obtain ⟨x0, x1, rfl⟩ := len2 hxl2
  simp only [List.map_cons, List.map_nil, List.cons.injEq, and_true] at hx
  simp at f0 f1
  obtain ⟨y0, z0⟩ := x0
  obtain ⟨y1, z1⟩ := x1
  simp only at hx
  rw [← hx.1.1] at f0
  rw [← hx.1.2] at f1
  obtain ⟨b, hb, hb2, _⟩ := DataW.trod_string Tryd.underlying9 f0
  simp only [Prod.mk.injEq, DataW.lit.injEq, Lit.string.injEq] at hb2
  have h2 := two_one f1
  simp only [List.cons.injEq, and_true] at hb h2
  obtain ⟨rfl, rfl⟩ := h2
  rw [hb, hb2.1]

/-- The rows of the table of forms. -/
def formRows : List (List UInt8 × Int × Int) := [([], 0, 0), ([115, 101, 116], 6, 1000), ([99, 111, 112, 121], 6, 6), ([97, 100, 100], 6, 6), ([115, 117, 98], 6, 6), ([109, 117, 108], 6, 6), ([122, 101, 114, 111], 6, 0), ([106, 117, 109, 112], 1, 0), ([115, 101, 110, 100], 6, 12), ([116, 97, 107, 101], 6, 12), ([114, 101, 115, 116], 1, 1), ([102, 97, 105, 108], 1, 1)]
def formD {H : Type} (r : List UInt8 × Int × Int) : DataW H := .agg [.lit (.string r.1), .agg [.lit (.int .i64 r.2.1), .lit (.int .i64 r.2.2)]]
theorem forms_of_head {W : World} {rest : List (String × DataW Unit)} (h : laidMet Tryd.prog (("framekeep/code.forms", .agg (formRows.map formD)) :: rest) W) : Forms W := by
  obtain ⟨ps, ⟨g', t', cs, fuel, p, q, hg', ht', hvar, hd, _, _⟩, _⟩ := h
  obtain rfl := Option.some.inj (gForms.symm.trans hg')
  obtain rfl := Option.some.inj (tForms.symm.trans ht')
  obtain ⟨xs, m, _, hx, _, hxl, hel⟩ := DataW.trod_array Tryd.underlying197 hd
  simp only [Prod.mk.injEq, DataW.agg.injEq] at hx
  have hrow : ∀ (i : Nat) r, formRows[i]? = some r → (cs.toList.drop (i * 3)).take 3 = [.string ⟨r.1.toArray⟩, .int .i64 r.2.1, .int .i64 r.2.2] := by
    intro i r hr
    have hi : i < 12 := by
      rcases Nat.lt_or_ge i 12 with h | h
      · exact h
      · rw [List.getElem?_eq_none (show formRows.length ≤ i from h)] at hr; cases hr
    have e1 := hel i hi
    rw [cForm] at e1
    have e2 : (xs.map (·.1))[i]? = some (formD r) := by rw [← hx.1]; simp [hr]
    simp only [List.getElem?_map, Option.map_eq_some_iff] at e2
    obtain ⟨⟨y, z⟩, hy, rfl⟩ := e2
    rw [hy] at e1
    exact form_one e1
  have hcell := fun i => World.var?_cell hg' hvar i
  have hat : ∀ (i j : Nat) r u, formRows[i]? = some r → j < 3 → ([.string ⟨r.1.toArray⟩, .int .i64 r.2.1, .int .i64 r.2.2] : List Value)[j]? = some u → W.cell? ⟨1, i * 3 + j, none⟩ = some u := by
    intro i j r u hr hj hu
    rw [← hrow i r hr] at hu
    rw [List.getElem?_take, if_pos hj, List.getElem?_drop] at hu
    rw [hcell]
    simpa using hu
  intro i v hv
  have hi : i < 36 := by
    rcases Nat.lt_or_ge i 36 with h | h
    · exact h
    · rw [List.getElem?_eq_none (show formsCells.length ≤ i from h)] at hv; cases hv
  have key : ∀ i, i < 36 → ∀ v, formsCells[i]? = some v → ∃ r, formRows[i / 3]? = some r ∧ ([.string ⟨r.1.toArray⟩, .int .i64 r.2.1, .int .i64 r.2.2] : List Value)[i % 3]? = some v := by
    intro i hi v hv
    match i, hi with
    | 0, _ | 1, _ | 2, _ | 3, _ | 4, _ | 5, _ | 6, _ | 7, _ | 8, _ | 9, _ | 10, _ | 11, _ | 12, _ | 13, _ | 14, _ | 15, _ | 16, _ | 17, _ | 18, _ | 19, _ | 20, _ | 21, _ | 22, _ | 23, _ | 24, _ | 25, _ | 26, _ | 27, _ | 28, _ | 29, _ | 30, _ | 31, _ | 32, _ | 33, _ | 34, _ | 35, _ => exact ⟨_, rfl, hv⟩
    | i + 36, h => omega
  obtain ⟨r, h1, h2⟩ := key i hi v hv
  have := hat (i / 3) (i % 3) r v h1 (Nat.mod_lt _ (by decide)) h2
  rwa [show i / 3 * 3 + i % 3 = i by omega] at this
end Go.Proofs.YtajfgmlockjmhafDoor
namespace Go.Proofs.YtajfgmlockjmhafDoor

/-- A wire that leads to a room, or comes from it. -/
def atR (r : Int) (l : LnD) : Bool := decide (l.w.1 = r) || decide (l.w.2.1 = r)
/-- What a room sees of a kernel's lines. -/
def seesK (k : KD) (r : Int) : List (List Int × Int) := (k.lines.filter (atR r)).map fun l => (l.xs, l.ls)
/-- A room's states ahead of each of n ticks, and behind the last one. -/
def statesK (p : PD) (n r : Nat) : List St := (List.range (n + 1)).map fun t => (kT p t).rooms.getD r stNew
theorem statesK_len (p : PD) (n r : Nat) : (statesK p n r).length = n + 1 := by simp [statesK]
theorem statesK_zero (p : PD) (r : Nat) : statesK p 0 r = [(newK p).rooms.getD r stNew] := by simp [statesK, kT]
theorem statesK_succ (p : PD) (n r : Nat) : statesK p (n + 1) r = statesK p n r ++ [(kT p (n + 1)).rooms.getD r stNew] := by
  unfold statesK
  rw [List.range_succ, List.map_append]
  rfl
theorem statesK_first (p : PD) (n r : Nat) : (statesK p n r)[0]? = some stNew := by
  have h : (newK p).rooms.getD r stNew = stNew := by
    unfold newK
    simp only [List.getD, List.getElem?_map]
    cases p.code[r]? <;> rfl
  rw [← h]
  simp [statesK, kT]
/-- What is wrong with a run. -/
def runE (p : PD) (n r : Int) : Int := if plchk p = 0 then (if r < 0 ∨ (p.code.length : Int) ≤ r ∨ n < 0 ∨ 2000 < n then 1 else 0) else plchk p
/-- Two states that look the same. -/
structure StSame (s t : St) : Prop where
  p : s.p = t.p
  c : ∀ i, i < 6 → s.c i = t.c i
  f : s.f = t.f
theorem StSame.refl (s : St) : StSame s s := ⟨rfl, fun _ _ => rfl, rfl⟩
theorem cells_same {o : O3} {c d : Nat → Int} {g : Int} {b : Bool} (h : ∀ i, i < 6 → c i = d i) (hA : o.2.1.toNat < 6) (hB : o.1 = 2 ∨ o.1 = 3 ∨ o.1 = 4 ∨ o.1 = 5 → o.2.2.toNat < 6) : ∀ i, i < 6 → cellsF o c g b i = cellsF o d g b i := fun i hi => by
  have hu : ∀ v, upd c o.2.1.toNat v i = upd d o.2.1.toNat v i := fun v => by
    unfold upd
    split
    · rfl
    · exact h i hi
  unfold cellsF
  split
  · exact hu _
  split
  · rename_i h2; rw [h _ (hB (by omega))]; exact hu _
  split
  · rename_i h3; rw [h _ hA, h _ (hB (by omega))]; exact hu _
  split
  · rename_i h4; rw [h _ hA, h _ (hB (by omega))]; exact hu _
  split
  · rename_i h5; rw [h _ hA, h _ (hB (by omega))]; exact hu _
  split
  · split
    · exact hu _
    · exact h i hi
  · exact h i hi
theorem step_same {o : O3} {s t : St} {n : Nat} {g : Int} {b : Bool} (h : StSame s t) (hA : o.2.1.toNat < 6) (hB : o.1 = 2 ∨ o.1 = 3 ∨ o.1 = 4 ∨ o.1 = 5 → o.2.2.toNat < 6) : StSame (stepF o s n g b) (stepF o t n g b) := by
  unfold stepF
  rw [← h.f]
  split
  · exact h
  · refine ⟨?_, cells_same h.c hA hB, rfl⟩
    show nextF o s n b = nextF o t n b
    unfold nextF
    rw [h.p, h.c _ hA]
theorem small_args {p : PD} {k : KD} {r : Nat} {c : List O3} {s : St} {o : O3} (h : Turn p k r c s o) : o.2.1.toNat < 6 ∧ (o.1 = 2 ∨ o.1 = 3 ∨ o.1 = 4 ∨ o.1 = 5 → o.2.2.toNat < 6) := by
  have hr := ok3_range h.ok
  have hb := (bA_le o.1).2
  refine ⟨by omega, fun hh => ?_⟩
  rcases hh with e | e | e | e <;> simp [e, bB] at hr <;> omega
/-- One turn of a room that sees the same. -/
theorem turn_same {p : PD} {k m : KD} {r : Nat} {c : List O3} {s t : St} {o : O3} (hk : Turn p k r c s o) (hm : Turn p m r c t o) (hs : StSame s t) (hl : o.1 = 8 ∨ o.1 = 9 → ∃ l, k.lines[o.2.2.toNat]? = some l ∧ m.lines[o.2.2.toNat]? = some l) (hrk : r < k.rooms.length) (hrm : r < m.rooms.length) :
    (turnK p k r).2 = (turnK p m r).2 ∧ ∃ s' t', (turnK p k r).1.rooms[r]? = some s' ∧ (turnK p m r).1.rooms[r]? = some t' ∧ StSame s' t' := by
  obtain ⟨hA, hB⟩ := small_args hk
  have hst : ∀ g b, StSame (stepF o s c.length g b) (stepF o t c.length g b) := fun g b => step_same hs hA hB
  cases hf : s.f with
  | true =>
    have hf' : t.f = true := by rw [← hs.f]; exact hf
    rw [turn_failed hk hf, turn_failed hm hf']
    exact ⟨by rw [hs.p], s, t, hk.hs, hm.hs, hs⟩
  | false =>
    have hf' : t.f = false := by rw [← hs.f]; exact hf
    by_cases h9 : o.1 = 9
    · obtain ⟨l, h1, h2⟩ := hl (Or.inr h9)
      cases hh : (headL l).2 with
      | true =>
        rw [turn_takes hk hf h9 h1 hh, turn_takes hm hf' h9 h2 hh]
        exact ⟨by rw [hs.p], _, _, List.getElem?_set_self hrk, List.getElem?_set_self hrm, hst _ _⟩
      | false =>
        rw [turn_waits hk hf h9 h1 hh, turn_waits hm hf' h9 h2 hh]
        exact ⟨by rw [hs.p], _, _, List.getElem?_set_self hrk, List.getElem?_set_self hrm, hst _ _⟩
    · by_cases h8 : o.1 = 8
      · obtain ⟨l, h1, h2⟩ := hl (Or.inl h8)
        rw [turn_sends hk hf h8 h1, turn_sends hm hf' h8 h2]
        exact ⟨by rw [hs.p], _, _, List.getElem?_set_self hrk, List.getElem?_set_self hrm, hst _ _⟩
      · rw [turn_else hk hf h8 h9, turn_else hm hf' h8 h9]
        exact ⟨by rw [hs.p], _, _, List.getElem?_set_self hrk, List.getElem?_set_self hrm, hst _ _⟩
/-- What is seen the same is the same line. -/
theorem sees_line : ∀ {ls ms : List LnD} {ws : List W4} {r : Int}, ls.length = ws.length → ms.length = ws.length → (∀ (i : Nat) l x, ls[i]? = some l → ws[i]? = some x → l.w = x) → (∀ (i : Nat) l x, ms[i]? = some l → ws[i]? = some x → l.w = x) →
    ((ls.filter (atR r)).map fun l => (l.xs, l.ls)) = ((ms.filter (atR r)).map fun l => (l.xs, l.ls)) → ∀ (i : Nat) x, ws[i]? = some x → x.1 = r ∨ x.2.1 = r → ls[i]? = ms[i]?
  | [], [], _, _, _, _, _, _, _, i, x, _, _ => by simp
  | [], _ :: _, ws, _, h1, h2, _, _, _, _, _, _, _ => by simp at h1 h2; omega
  | _ :: _, [], ws, _, h1, h2, _, _, _, _, _, _, _ => by simp at h1 h2; omega
  | l :: ls, m :: ms, [], _, h1, _, _, _, _, _, _, _, _ => by simp at h1
  | l :: ls, m :: ms, y :: ws, r, h1, h2, h3, h4, h5, i, x, hx, hr => by
    have e1 : l.w = y := h3 0 l y rfl rfl
    have e2 : m.w = y := h4 0 m y rfl rfl
    have ea : atR r m = atR r l := by unfold atR; rw [e1, e2]
    have rest : ((ls.filter (atR r)).map fun l => (l.xs, l.ls)) = ((ms.filter (atR r)).map fun l => (l.xs, l.ls)) ∧ (atR r l = true → l = m) := by
      cases hb : atR r l with
      | true =>
        rw [List.filter_cons_of_pos (by exact hb), List.filter_cons_of_pos (by rw [ea]; exact hb)] at h5
        simp only [List.map_cons, List.cons.injEq, Prod.mk.injEq] at h5
        refine ⟨h5.2, fun _ => ?_⟩
        obtain ⟨lw, lx, ll⟩ := l
        obtain ⟨mw, mx, ml⟩ := m
        simp only at e1 e2 h5
        rw [e1, e2, h5.1.1, h5.1.2]
      | false =>
        rw [List.filter_cons_of_neg (by rw [hb]; decide), List.filter_cons_of_neg (by rw [ea, hb]; decide)] at h5
        exact ⟨h5, fun h => by cases h⟩
    cases i with
    | zero =>
      simp only [List.getElem?_cons_zero, Option.some.injEq] at hx ⊢
      subst hx
      refine rest.2 ?_
      unfold atR
      rw [e1]
      rcases hr with hr | hr <;> simp [hr]
    | succ i =>
      simp only [List.getElem?_cons_succ] at hx ⊢
      exact sees_line (by simpa using h1) (by simpa using h2) (fun j l' x' hl hx => h3 (j + 1) l' x' (by simpa using hl) (by simpa using hx)) (fun j l' x' hl hx => h4 (j + 1) l' x' (by simpa using hl) (by simpa using hx)) rest.1 i x hx hr
/-- WHO SEES THE SAME DOES THE SAME: one tick. -/
theorem tick_same {p : PD} {k m : KD} (hp : plchk p = 0) (hk : KOk p k) (hm : KOk p m) (ht : k.time = m.time) {r : Nat} (hr : r < p.code.length) {s t : St} (hs : k.rooms[r]? = some s) (htt : m.rooms[r]? = some t) (hst : StSame s t) (hsee : seesK k r = seesK m r) :
    (tickK p p.spans k).2.2.1 = (tickK p p.spans m).2.2.1 ∧ ((tickK p p.spans k).2.2.1 = (r : Int) → (tickK p p.spans k).2 = (tickK p p.spans m).2 ∧ ∃ s' t', (tickK p p.spans k).1.rooms[r]? = some s' ∧ (tickK p p.spans m).1.rooms[r]? = some t' ∧ StSame s' t') := by
  have ew : whoK p k = whoK p m := by unfold whoK; rw [ht]
  refine ⟨by rw [(tick_told p k).2, (tick_told p m).2, ew], fun hw => ?_⟩
  rw [(tick_told p k).2] at hw
  have hwm : whoK p m = r := by rw [← ew]; exact hw
  have e1 : tickK p p.spans k = ((turnK p k r).1, k.time, (r : Int), (turnK p k r).2.1, (turnK p k r).2.2) := by
    unfold whoK at hw
    unfold tickK
    simp only [hw]
    rw [if_neg (by omega), Int.toNat_natCast]
  have e2 : tickK p p.spans m = ((turnK p m r).1, m.time, (r : Int), (turnK p m r).2.1, (turnK p m r).2.2) := by
    unfold whoK at hwm
    unfold tickK
    simp only [hwm]
    rw [if_neg (by omega), Int.toNat_natCast]
  obtain ⟨c, s0, o, tk⟩ := turn_of hp hk hr
  obtain rfl : s = s0 := Option.some.inj (hs.symm.trans tk.hs)
  have tm : Turn p m r c t o := ⟨tk.hc, htt, by rw [← hst.p]; exact tk.ho, tk.ck, hm.rooms r c t tk.hc htt, tk.ok⟩
  have hl : o.1 = 8 ∨ o.1 = 9 → ∃ l, k.lines[o.2.2.toNat]? = some l ∧ m.lines[o.2.2.toNat]? = some l := fun ho => by
    have hx : ∃ x, p.wires[o.2.2.toNat]? = some x ∧ (x.1 = (r : Int) ∨ x.2.1 = (r : Int)) := by
      have := op_wire hp tk.hc (List.mem_of_getElem? tk.ho)
      rcases ho with h8 | h9
      · obtain ⟨x, h1, h2⟩ := this.1 h8
        exact ⟨x, h1, Or.inl h2⟩
      · obtain ⟨x, h1, h2⟩ := this.2 h9
        exact ⟨x, h1, Or.inr h2⟩
    obtain ⟨x, hx1, hx2⟩ := hx
    have hlt : o.2.2.toNat < k.lines.length := by rw [hk.ll]; exact (List.getElem?_eq_some_iff.1 hx1).1
    have hl1 : k.lines[o.2.2.toNat]? = some k.lines[o.2.2.toNat] := List.getElem?_eq_getElem hlt
    have := sees_line hk.ll hm.ll (fun i l x h1 h2 => (hk.lines i l x h1 h2).w) (fun i l x h1 h2 => (hm.lines i l x h1 h2).w) hsee _ x hx1 hx2
    exact ⟨_, hl1, by rw [← this]; exact hl1⟩
  have hrl : r < k.rooms.length := by rw [hk.rl]; exact hr
  have hrm : r < m.rooms.length := by rw [hm.rl]; exact hr
  obtain ⟨q1, q2⟩ := turn_same tk tm hst hl hrl hrm
  rw [e1, e2]
  refine ⟨?_, q2⟩
  rw [ht, q1]
end Go.Proofs.YtajfgmlockjmhafDoor
namespace Go.Proofs.YtajfgmlockjmhafDoor

/-- Code that rests. -/
def restC : List O3 := [(10, 0, 0)]
/-- Codes of which all but some rest. -/
def purgeC (R : Nat → Bool) : Nat → List (List O3) → List (List O3)
  | _, [] => []
  | i, c :: l => (if R i = true then c else restC) :: purgeC R (i + 1) l
def purgeP (p : PD) (R : Nat → Bool) : PD := ⟨purgeC R 0 p.code, p.ticks, p.spans, p.wires⟩
theorem purgeC_len (R : Nat → Bool) : ∀ (i : Nat) (l : List (List O3)), (purgeC R i l).length = l.length
  | _, [] => rfl
  | i, c :: l => by simp [purgeC, purgeC_len R (i + 1) l]
theorem purgeC_at (R : Nat → Bool) : ∀ (i : Nat) (l : List (List O3)) (j : Nat), (purgeC R i l)[j]? = (l[j]?).map fun c => if R (i + j) = true then c else restC
  | _, [], j => by simp [purgeC]
  | i, c :: l, 0 => by simp [purgeC]
  | i, c :: l, j + 1 => by
    simp only [purgeC, List.getElem?_cons_succ]
    rw [purgeC_at R (i + 1) l j, show i + 1 + j = i + (j + 1) by omega]
theorem rest_chk : (chk restC).2 = 0 := by decide +kernel
theorem rest_ports (ws : List W4) (i : Nat) : portsB ws i restC = false := by
  have h8 : wiresB 8 restC = [] := by decide +kernel
  have h9 : wiresB 9 restC = [] := by decide +kernel
  unfold portsB
  rw [h8, h9]
  rfl
theorem purge_codes (R : Nat → Bool) : ∀ (i : Nat) (l : List (List O3)), codesE l = 0 → codesE (purgeC R i l) = 0
  | _, [], _ => rfl
  | i, c :: l, h => by
    unfold codesE at h
    have hc : (chk c).2 = 0 ∧ codesE l = 0 := by
      split at h
      · rename_i h1
        exact ⟨h1, h⟩
      · rename_i h1
        exact absurd h h1
    have hq : (chk (if R i = true then c else restC)).2 = 0 := by
      split
      · exact hc.1
      · exact rest_chk
    show codesE ((if R i = true then c else restC) :: purgeC R (i + 1) l) = 0
    unfold codesE
    rw [if_pos hq]
    exact purge_codes R (i + 1) l hc.2
theorem purge_ports (R : Nat → Bool) (ws : List W4) : ∀ (i : Nat) (l : List (List O3)), portsAny ws i l = false → portsAny ws i (purgeC R i l) = false
  | _, [], _ => rfl
  | i, c :: l, h => by
    rw [portsAny, Bool.or_eq_false_iff] at h
    show portsAny ws i ((if R i = true then c else restC) :: purgeC R (i + 1) l) = false
    rw [portsAny, Bool.or_eq_false_iff]
    refine ⟨?_, purge_ports R ws (i + 1) l h.2⟩
    split
    · exact h.1
    · exact rest_ports ws i
/-- A plan that is right is right without those. -/
theorem purge_right {p : PD} (R : Nat → Bool) (h : plchk p = 0) : plchk (purgeP p R) = 0 := by
  obtain ⟨h1, h2, h3, h4, h5, h6, h7, h8⟩ := plchk_zero h
  unfold plchk purgeP
  simp only [purgeC_len]
  rw [if_neg (by omega), if_neg h2, if_neg (by simpa using h3), if_neg (by simpa using h4), if_neg (by rw [h5]; decide), if_neg (by rw [h6]; decide), if_neg (by simpa using purge_codes R 0 _ h7), if_neg (by rw [purge_ports R _ 0 _ h8]; decide)]
/-- Who leads to one of them is one of them. -/
def ClosedR (ws : List W4) (R : Nat → Bool) : Prop := ∀ x ∈ ws, ∀ a b : Nat, x.1 = (a : Int) → x.2.1 = (b : Int) → R b = true → R a = true
theorem way_closed (ws : List W4) (r : Nat) (hw : ∀ x ∈ ws, ∀ b : Nat, x.2.1 = (b : Int) → b < 5) : ClosedR ws (fun i => way ws i r) := fun x hx a b ha hb hr => by
  have h1 : way ws a b = true := pm_edge _ 5 a b (by
    unfold edge
    rw [Bool.or_eq_true, List.any_eq_true]
    exact Or.inr ⟨x, hx, by simp [ha, hb]⟩)
  exact way_trans ws (hw x hx b hb) h1 hr
/-- Two kernels that are the same for some rooms, and the wires that lead to them. -/
structure Sim (ws : List W4) (R : Nat → Bool) (k m : KD) : Prop where
  time : k.time = m.time
  rooms : ∀ i, R i = true → k.rooms[i]? = m.rooms[i]?
  lines : ∀ (i : Nat) x (b : Nat), ws[i]? = some x → x.2.1 = (b : Int) → R b = true → k.lines[i]? = m.lines[i]?
theorem sim_new (p : PD) (R : Nat → Bool) : Sim p.wires R (newK p) (newK (purgeP p R)) := by
  refine ⟨rfl, fun i _ => ?_, fun i x b _ _ _ => rfl⟩
  simp only [newK, purgeP, List.getElem?_map, purgeC_at]
  cases p.code[i]? <;> rfl
/-- A room that is one of them does its turn alike. -/
theorem turn_sim {p q : PD} {R : Nat → Bool} {k m : KD} {r : Nat} {c : List O3} {s : St} {o : O3} (hp : plchk p = 0) (hk : KOk p k) (hm : KOk q m) (hqw : q.wires = p.wires) (tk : Turn p k r c s o) (tm : Turn q m r c s o) (hr : R r = true) (h : Sim p.wires R k m) : Sim p.wires R (turnK p k r).1 (turnK q m r).1 := by
  have hrk : r < k.rooms.length := (List.getElem?_eq_some_iff.1 tk.hs).1
  have hrm : r < m.rooms.length := (List.getElem?_eq_some_iff.1 tm.hs).1
  have ht : k.time + 1 = m.time + 1 := by rw [h.time]
  have hrooms : ∀ (s' : St) i, R i = true → (k.rooms.set r s')[i]? = (m.rooms.set r s')[i]? := fun s' i hi => by
    by_cases hir : r = i
    · subst hir
      rw [List.getElem?_set_self hrk, List.getElem?_set_self hrm]
    · rw [List.getElem?_set_ne hir, List.getElem?_set_ne hir]
      exact h.rooms i hi
  have hop := op_wire hp tk.hc (List.mem_of_getElem? tk.ho)
  have hset : ∀ (z : Nat) (l : LnD) (i : Nat), k.lines[z]? ≠ none → m.lines[z]? ≠ none → k.lines[i]? = m.lines[i]? → (k.lines.set z l)[i]? = (m.lines.set z l)[i]? := fun z l i h1 h2 h3 => by
    by_cases hzi : z = i
    · subst hzi
      have hz1 : z < k.lines.length := by
        rcases Nat.lt_or_ge z k.lines.length with h4 | h4
        · exact h4
        · exact absurd (List.getElem?_eq_none h4) h1
      have hz2 : z < m.lines.length := by
        rcases Nat.lt_or_ge z m.lines.length with h4 | h4
        · exact h4
        · exact absurd (List.getElem?_eq_none h4) h2
      rw [List.getElem?_set_self hz1, List.getElem?_set_self hz2]
    · rw [List.getElem?_set_ne hzi, List.getElem?_set_ne hzi]
      exact h3
  cases hf : s.f with
  | true =>
    rw [turn_failed tk hf, turn_failed tm hf]
    exact ⟨ht, h.rooms, h.lines⟩
  | false =>
    by_cases h9 : o.1 = 9
    · obtain ⟨x, hx, hxr⟩ := hop.2 h9
      have hlt : o.2.2.toNat < k.lines.length := by rw [hk.ll]; exact (List.getElem?_eq_some_iff.1 hx).1
      have hl1 : k.lines[o.2.2.toNat]? = some k.lines[o.2.2.toNat] := List.getElem?_eq_getElem hlt
      have hl2 : m.lines[o.2.2.toNat]? = some k.lines[o.2.2.toNat] := by rw [← h.lines _ x r hx hxr hr]; exact hl1
      generalize k.lines[o.2.2.toNat] = l at hl1 hl2
      cases hh : (headL l).2 with
      | true =>
        rw [turn_takes tk hf h9 hl1 hh, turn_takes tm hf h9 hl2 hh]
        exact ⟨ht, hrooms _, fun i y b hy hb hR => hset _ _ i (by rw [hl1]; simp) (by rw [hl2]; simp) (h.lines i y b hy hb hR)⟩
      | false =>
        rw [turn_waits tk hf h9 hl1 hh, turn_waits tm hf h9 hl2 hh]
        exact ⟨ht, hrooms _, h.lines⟩
    · by_cases h8 : o.1 = 8
      · obtain ⟨x, hx, hxr⟩ := hop.1 h8
        have hlt : o.2.2.toNat < k.lines.length := by rw [hk.ll]; exact (List.getElem?_eq_some_iff.1 hx).1
        have hlt2 : o.2.2.toNat < m.lines.length := by rw [hm.ll, hqw]; exact (List.getElem?_eq_some_iff.1 hx).1
        have hl1 : k.lines[o.2.2.toNat]? = some k.lines[o.2.2.toNat] := List.getElem?_eq_getElem hlt
        have hl2 : m.lines[o.2.2.toNat]? = some m.lines[o.2.2.toNat] := List.getElem?_eq_getElem hlt2
        rw [turn_sends tk hf h8 hl1, turn_sends tm hf h8 hl2]
        refine ⟨ht, hrooms _, fun i y b hy hb hR => ?_⟩
        by_cases hzi : o.2.2.toNat = i
        · subst hzi
          have he := h.lines _ y b hy hb hR
          rw [hl1, hl2] at he
          rw [Option.some.inj he]
          rw [List.getElem?_set_self hlt, List.getElem?_set_self hlt2]
        · show (k.lines.set _ _)[i]? = (m.lines.set _ _)[i]?
          rw [List.getElem?_set_ne hzi, List.getElem?_set_ne hzi]
          exact h.lines i y b hy hb hR
      · rw [turn_else tk hf h8 h9, turn_else tm hf h8 h9]
        exact ⟨ht, hrooms _, h.lines⟩
/-- WHO CANNOT TELL DOES NOT MATTER: one tick. -/
theorem sim_tick {p : PD} {R : Nat → Bool} {k m : KD} (hp : plchk p = 0) (hk : KOk p k) (hm : KOk (purgeP p R) m) (hc : ClosedR p.wires R) (hw0 : ∀ x ∈ p.wires, 0 ≤ x.1) (h : Sim p.wires R k m) : Sim p.wires R (tickK p p.spans k).1 (tickK (purgeP p R) (purgeP p R).spans m).1 := by
  have hq := purge_right R hp
  have ew : whoK (purgeP p R) m = whoK p k := by
    unfold whoK purgeP
    rw [h.time]
  have htime : (tickK p p.spans k).1.time = (tickK (purgeP p R) (purgeP p R).spans m).1.time := by rw [tick_time, tick_time, h.time]
  by_cases hneg : whoK p k < 0
  · have e1 : tickK p p.spans k = (⟨k.rooms, k.lines, k.time + 1⟩, k.time, whoK p k, 0, 0) := by
      unfold whoK at hneg ⊢
      unfold tickK
      simp only
      rw [if_pos hneg]
    have e2 : (tickK (purgeP p R) (purgeP p R).spans m).1 = ⟨m.rooms, m.lines, m.time + 1⟩ := by
      have hneg2 : whoK (purgeP p R) m < 0 := by rw [ew]; exact hneg
      unfold whoK at hneg2
      unfold tickK
      simp only
      rw [if_pos hneg2]
    rw [e1, e2]
    exact ⟨by rw [h.time], h.rooms, h.lines⟩
  · obtain ⟨rn, hrn⟩ : ∃ n : Nat, whoK p k = n := ⟨(whoK p k).toNat, by omega⟩
    have hrl : rn < p.code.length := by
      have := (who_room hp (k.time % p.ticks)).2
      unfold whoK at hrn
      rw [hrn] at this
      simpa using this (by omega)
    have hrl2 : rn < (purgeP p R).code.length := by
      show rn < (purgeC R 0 p.code).length
      rw [purgeC_len]
      exact hrl
    cases hR : R rn with
    | false =>
      refine ⟨htime, fun i hi => ?_, fun i x b hx hb hRb => ?_⟩
      · have hne : i ≠ rn := fun e => by rw [e, hR] at hi; cases hi
        rw [tick_room (p := p) (k := k) (r := i) (by rw [hrn]; omega), tick_room (p := purgeP p R) (k := m) (r := i) (by rw [ew, hrn]; omega)]
        exact h.rooms i hi
      · obtain ⟨a, ha⟩ : ∃ n : Nat, x.1 = n := ⟨x.1.toNat, by have := hw0 x (List.mem_of_getElem? hx); omega⟩
        have hRa := hc x (List.mem_of_getElem? hx) a b ha hb hRb
        have hne1 : a ≠ rn := fun e => by rw [e, hR] at hRa; cases hRa
        have hne2 : b ≠ rn := fun e => by rw [e, hR] at hRb; cases hRb
        rw [tick_line hp hk hx (by rw [ha, hrn]; omega) (by rw [hb, hrn]; omega), tick_line hq hm (show (purgeP p R).wires[i]? = some x from hx) (by rw [ha, ew, hrn]; omega) (by rw [hb, ew, hrn]; omega)]
        exact h.lines i x b hx hb hRb
    | true =>
      have e1 : (tickK p p.spans k).1 = (turnK p k rn).1 := by
        unfold whoK at hrn
        unfold tickK
        simp only [hrn]
        rw [if_neg (by omega), Int.toNat_natCast]
      have e2 : (tickK (purgeP p R) (purgeP p R).spans m).1 = (turnK (purgeP p R) m rn).1 := by
        have hrn2 : whoK (purgeP p R) m = rn := by rw [ew]; exact hrn
        unfold whoK at hrn2
        unfold tickK
        simp only [hrn2]
        rw [if_neg (by omega), Int.toNat_natCast]
      rw [e1, e2]
      obtain ⟨c, s, o, tk⟩ := turn_of hp hk hrl
      have hs2 : m.rooms[rn]? = some s := by rw [← h.rooms rn hR]; exact tk.hs
      have hc2 : (purgeP p R).code[rn]? = some c := by
        show (purgeC R 0 p.code)[rn]? = some c
        rw [purgeC_at, tk.hc, Nat.zero_add]
        simp [hR]
      have tm : Turn (purgeP p R) m rn c s o := ⟨hc2, hs2, tk.ho, tk.ck, tk.st, tk.ok⟩
      exact turn_sim hp hk hm rfl tk tm hR h
/-- .. all along. -/
theorem sim_all {p : PD} {R : Nat → Bool} (hp : plchk p = 0) (hc : ClosedR p.wires R) (hw0 : ∀ x ∈ p.wires, 0 ≤ x.1) : ∀ t, Sim p.wires R (kT p t) (kT (purgeP p R) t)
  | 0 => sim_new p R
  | t + 1 => sim_tick hp (kT_ok hp t) (kT_ok (purge_right R hp) t) hc hw0 (sim_all hp hc hw0 t)
theorem purge_states {p : PD} {r : Nat} (hp : plchk p = 0) (n : Nat) : statesK (purgeP p (fun i => way p.wires i r)) n r = statesK p n r := by
  have hrange : ∀ x ∈ p.wires, 0 ≤ x.1 ∧ x.1 < 5 ∧ 0 ≤ x.2.1 ∧ x.2.1 < 5 := fun x hx => by
    have h1 := (wschk_ok (plchk_zero hp).2.2.2.1).2 x hx
    unfold w4chk wchk at h1
    split at h1
    · rename_i h2
      omega
    · cases h1
  have h := sim_all hp (way_closed p.wires r (fun x hx b hb => by have := hrange x hx; omega)) (fun x hx => (hrange x hx).1)
  unfold statesK
  apply List.map_congr_left
  intro t _
  have := (h t).rooms r (way_self _ _)
  rw [List.getD, List.getD, this]
end Go.Proofs.YtajfgmlockjmhafDoor
namespace Go.Proofs.YtajfgmlockjmhafDoor

/-- A kernel, and how often each room was helped. -/
structure CD where
  k : KD
  ts : List Int
/-- What is wrong with a plan and its rules. -/
def ruleOut (n : Int) : Bool := decide (n < 0) || decide (2 < n)
def carE (p : PD) (what : List Int) (most : Int) : Int :=
  if plchk p = 0 then (if what.length = p.code.length then (if what.any ruleOut = true then 1 else if most < 0 ∨ 100 < most then 1 else 0) else 3) else plchk p
theorem carE_zero {p : PD} {what : List Int} {most : Int} (h : carE p what most = 0) : plchk p = 0 ∧ what.length = p.code.length ∧ (∀ n ∈ what, 0 ≤ n ∧ n ≤ 2) ∧ 0 ≤ most ∧ most ≤ 100 := by
  unfold carE at h
  split at h
  · rename_i h1
    split at h
    · rename_i h2
      split at h
      · omega
      · rename_i h3
        split at h
        · omega
        · refine ⟨h1, h2, fun n hn => ?_, by omega, by omega⟩
          have h3' : what.any ruleOut = false := by simpa using h3
          have := any_of_all h3' hn
          unfold ruleOut at this
          simp only [Bool.or_eq_false_iff, decide_eq_false_iff_not] at this
          omega
    · omega
  · rename_i h1
    exact absurd h h1
def newC (p : PD) : CD := ⟨newK p, p.code.map fun _ => 0⟩
/-- Is a room helped? -/
def caresB (what : List Int) (most : Int) (d : CD) (r : Nat) : Bool := (d.k.rooms.getD r stNew).f && (decide (0 < what.getD r 0) && decide (d.ts.getD r 0 < most))
/-- A room that is helped. -/
def helpS (p : PD) (what : List Int) (r : Nat) (s : St) : St := if what.getD r 0 = 1 then stNew else ⟨if s.p + 1 = ((p.code.getD r []).length : Int) then 0 else s.p + 1, s.c, false⟩
def helpC (p : PD) (what : List Int) (most : Int) (d : CD) : CD :=
  if 0 ≤ whoK p d.k ∧ caresB what most d (whoK p d.k).toNat = true then ⟨⟨d.k.rooms.set (whoK p d.k).toNat (helpS p what (whoK p d.k).toNat (d.k.rooms.getD (whoK p d.k).toNat stNew)), d.k.lines, d.k.time⟩, d.ts.set (whoK p d.k).toNat (d.ts.getD (whoK p d.k).toNat 0 + 1)⟩ else d
/-- A tick; what is told of it is the kernel's. -/
def tickC (p : PD) (what : List Int) (most : Int) (d : CD) : CD := ⟨(tickK p p.spans (helpC p what most d).k).1, (helpC p what most d).ts⟩
def evC (p : PD) (what : List Int) (most : Int) (d : CD) : Int × Int × Int × Int := (tickK p p.spans (helpC p what most d).k).2
structure COk (p : PD) (what : List Int) (most : Int) (d : CD) : Prop where
  k : KOk p d.k
  tl : d.ts.length = p.code.length
  ts : ∀ (i : Nat) t, d.ts[i]? = some t → 0 ≤ t ∧ t ≤ most ∧ (what.getD i 0 ≤ 0 → t = 0)
theorem help_time (p : PD) (what : List Int) (most : Int) (d : CD) : (helpC p what most d).k.time = d.k.time := by
  unfold helpC
  split <;> rfl
theorem help_lines (p : PD) (what : List Int) (most : Int) (d : CD) : (helpC p what most d).k.lines = d.k.lines := by
  unfold helpC
  split <;> rfl
theorem help_who (p : PD) (what : List Int) (most : Int) (d : CD) : whoK p (helpC p what most d).k = whoK p d.k := by
  unfold whoK
  rw [help_time]
theorem help_other (p : PD) (what : List Int) (most : Int) (d : CD) {r : Nat} (hr : (r : Int) ≠ whoK p d.k) : (helpC p what most d).k.rooms[r]? = d.k.rooms[r]? ∧ (helpC p what most d).ts[r]? = d.ts[r]? := by
  unfold helpC
  split
  · rename_i h
    exact ⟨List.getElem?_set_ne (by omega), List.getElem?_set_ne (by omega)⟩
  · exact ⟨rfl, rfl⟩
theorem help_no {p : PD} {what : List Int} {most : Int} {d : CD} (h : ¬ (0 ≤ whoK p d.k ∧ caresB what most d (whoK p d.k).toNat = true)) : helpC p what most d = d := by
  unfold helpC
  rw [if_neg h]
theorem help_yes {p : PD} {what : List Int} {most : Int} {d : CD} {rn : Nat} {s : St} {t : Int} (hr : whoK p d.k = rn) (hs : d.k.rooms[rn]? = some s) (ht : d.ts[rn]? = some t) (hc : caresB what most d rn = true) : helpC p what most d = ⟨⟨d.k.rooms.set rn (helpS p what rn s), d.k.lines, d.k.time⟩, d.ts.set rn (t + 1)⟩ := by
  unfold helpC
  rw [hr, Int.toNat_natCast, if_pos ⟨by omega, hc⟩]
  simp only [List.getD, hs, ht, Option.getD_some]
theorem newC_ok {p : PD} {what : List Int} {most : Int} (h : carE p what most = 0) : COk p what most (newC p) := by
  obtain ⟨h1, h2, h3, h4, h5⟩ := carE_zero h
  refine ⟨new_ok h1, by simp [newC], fun i t ht => ?_⟩
  unfold newC at ht
  simp only [List.getElem?_map] at ht
  obtain ⟨_, _, rfl⟩ := Option.map_eq_some_iff.1 ht
  exact ⟨Int.le_refl _, h4, fun _ => rfl⟩
theorem helpC_ok {p : PD} {what : List Int} {most : Int} {d : CD} (hp : plchk p = 0) (h : COk p what most d) : COk p what most (helpC p what most d) := by
  unfold helpC
  split
  · rename_i hc
    obtain ⟨hw, hc⟩ := hc
    unfold caresB at hc
    simp only [Bool.and_eq_true, decide_eq_true_eq] at hc
    obtain ⟨hf, hwt, hts⟩ := hc
    obtain ⟨rn, hrn⟩ : ∃ n : Nat, whoK p d.k = n := ⟨(whoK p d.k).toNat, by omega⟩
    rw [hrn, Int.toNat_natCast] at hf hwt hts ⊢
    have hlt : rn < p.code.length := by
      have := (who_room hp (d.k.time % p.ticks)).2
      unfold whoK at hrn
      rw [hrn] at this
      simpa using this (by omega)
    have hrl : rn < d.k.rooms.length := by rw [h.k.rl]; exact hlt
    have htl : rn < d.ts.length := by rw [h.tl]; exact hlt
    refine ⟨⟨by simp [h.k.rl], h.k.ll, fun i c s hi hs => ?_, h.k.lines, h.k.lost, h.k.time⟩, by simp [h.tl], fun i t ht => ?_⟩
    · by_cases hir : rn = i
      · subst hir
        simp only at hs
        rw [List.getElem?_set_self hrl] at hs
        obtain rfl := Option.some.inj hs
        have hs0 : d.k.rooms[rn]? = some (d.k.rooms.getD rn stNew) := by simp [List.getD, hrl]
        have hst := stOk_iff.1 (h.k.rooms rn c _ hi hs0)
        have hce : p.code.getD rn [] = c := by simp [List.getD, hi]
        unfold helpS
        rw [stOk_iff]
        split
        · refine ⟨Int.le_refl _, ?_, fun i _ => ⟨Int.le_refl _, by simp [stNew]⟩⟩
          show (0 : Int) < _
          omega
        · rw [hce]
          by_cases h1 : (d.k.rooms.getD rn stNew).p + 1 = (c.length : Int)
          · rw [if_pos h1]
            exact ⟨Int.le_refl _, by show (0 : Int) < _; omega, hst.2.2⟩
          · rw [if_neg h1]
            exact ⟨by show 0 ≤ (d.k.rooms.getD rn stNew).p + 1; omega, by show (d.k.rooms.getD rn stNew).p + 1 < _; omega, hst.2.2⟩
      · simp only at hs
        rw [List.getElem?_set_ne hir] at hs
        exact h.k.rooms i c s hi hs
    · by_cases hir : rn = i
      · subst hir
        simp only at ht
        rw [List.getElem?_set_self htl] at ht
        obtain rfl := Option.some.inj ht
        have h0 := h.ts rn d.ts[rn] (List.getElem?_eq_getElem htl)
        have he : d.ts.getD rn 0 = d.ts[rn] := by simp [List.getD, htl]
        rw [he] at hts ⊢
        exact ⟨by omega, by omega, fun hh => by omega⟩
      · simp only at ht
        rw [List.getElem?_set_ne hir] at ht
        exact h.ts i t ht
  · exact h
theorem tickC_ok {p : PD} {what : List Int} {most : Int} {d : CD} (hp : plchk p = 0) (h : COk p what most d) : COk p what most (tickC p what most d) := by
  have h' := helpC_ok hp h
  exact ⟨tick_ok hp h'.k, h'.tl, h'.ts⟩
/-- No room has failed. -/
def NoneF (k : KD) : Prop := ∀ (i : Nat) s, k.rooms[i]? = some s → s.f = false
theorem none_new (p : PD) : NoneF (newK p) := fun i s h => by
  unfold newK at h
  simp only [List.getElem?_map] at h
  obtain ⟨_, _, rfl⟩ := Option.map_eq_some_iff.1 h
  rfl
/-- Where none failed none is helped. -/
theorem none_help {p : PD} {what : List Int} {most : Int} {d : CD} (h : NoneF d.k) : helpC p what most d = d := by
  unfold helpC
  split
  · rename_i hc
    obtain ⟨_, hc⟩ := hc
    unfold caresB at hc
    simp only [Bool.and_eq_true] at hc
    obtain ⟨hf, _⟩ := hc
    generalize (whoK p d.k).toNat = r at hf
    cases hr : d.k.rooms[r]? with
    | none => rw [List.getD, hr] at hf; cases hf
    | some s =>
      rw [List.getD, hr] at hf
      have := h r s hr
      simp only [Option.getD_some] at hf
      rw [this] at hf
      cases hf
  · rfl
/-- Who fails at a tick is told. -/
theorem none_tick {p : PD} {k : KD} (hp : plchk p = 0) (hk : KOk p k) (h : NoneF k) (h4 : (tickK p p.spans k).2.2.2.2 ≠ 4) : NoneF (tickK p p.spans k).1 := by
  by_cases hneg : whoK p k < 0
  · have e1 : (tickK p p.spans k).1 = ⟨k.rooms, k.lines, k.time + 1⟩ := by
      unfold whoK at hneg
      unfold tickK
      simp only
      rw [if_pos hneg]
    rw [e1]
    exact h
  · obtain ⟨rn, hrn⟩ : ∃ n : Nat, whoK p k = n := ⟨(whoK p k).toNat, by omega⟩
    have hrl : rn < p.code.length := by
      have := (who_room hp (k.time % p.ticks)).2
      unfold whoK at hrn
      rw [hrn] at this
      simpa using this (by omega)
    have e1 : tickK p p.spans k = ((turnK p k rn).1, k.time, (rn : Int), (turnK p k rn).2.1, (turnK p k rn).2.2) := by
      unfold whoK at hrn
      unfold tickK
      simp only [hrn]
      rw [if_neg (by omega), Int.toNat_natCast]
    rw [e1] at h4 ⊢
    obtain ⟨c, s, o, tk⟩ := turn_of hp hk hrl
    obtain ⟨a1, a2, a3⟩ := tk.at
    have hf := h rn s tk.hs
    intro i s' hs'
    by_cases hir : rn = i
    · subst hir
      have hroom : (turnK p k rn).1.rooms = k.rooms.set rn (stepF o s c.length (gotK k o s).1 (gotK k o s).2) := by
        unfold turnK
        simp only [a1, a2, a3]
      simp only [hroom] at hs'
      rw [List.getElem?_set_self (List.getElem?_eq_some_iff.1 tk.hs).1] at hs'
      obtain rfl := Option.some.inj hs'
      unfold stepF
      rw [if_neg (by rw [hf]; decide)]
      show decide (o.1 = 11) = false
      apply decide_eq_false
      intro h11
      apply h4
      have := turn_else tk hf (by omega) (by omega)
      simp only [this, h11, if_true]
    · have := tick_room (p := p) (k := k) (r := i) (by rw [hrn]; omega)
      rw [e1] at this
      simp only at this hs'
      rw [this] at hs'
      exact h i s' hs'
/-- Two kernels with rules that are the same for some rooms, and the wires that lead to them. -/
structure SimC (ws : List W4) (R : Nat → Bool) (d e : CD) : Prop where
  k : Sim ws R d.k e.k
  ts : ∀ i, R i = true → d.ts[i]? = e.ts[i]?
theorem simC_new (p : PD) (R : Nat → Bool) : SimC p.wires R (newC p) (newC (purgeP p R)) := by
  refine ⟨sim_new p R, fun i _ => ?_⟩
  simp only [newC, purgeP, List.getElem?_map, purgeC_at]
  cases p.code[i]? <;> rfl
theorem simC_help {p : PD} {R : Nat → Bool} {what : List Int} {most : Int} {d e : CD} (hd : COk p what most d) (he : COk (purgeP p R) what most e) (hp : plchk p = 0) (h : SimC p.wires R d e) : SimC p.wires R (helpC p what most d) (helpC (purgeP p R) what most e) := by
  have ew : whoK (purgeP p R) e.k = whoK p d.k := by
    unfold whoK purgeP
    rw [h.k.time]
  refine ⟨⟨by rw [help_time, help_time, h.k.time], fun i hi => ?_, fun i x b hx hb hR => by rw [help_lines, help_lines]; exact h.k.lines i x b hx hb hR⟩, fun i hi => ?_⟩
  all_goals
    by_cases hiw : (i : Int) = whoK p d.k
    case neg =>
      obtain ⟨a1, a2⟩ := help_other p what most d hiw
      obtain ⟨b1, b2⟩ := help_other (purgeP p R) what most e (r := i) (by rw [ew]; exact hiw)
      first
        | (rw [a1, b1]; exact h.k.rooms i hi)
        | (rw [a2, b2]; exact h.ts i hi)
    have hw : whoK p d.k = (i : Int) := hiw.symm
    have hlt : i < p.code.length := by
      have := (who_room hp (d.k.time % p.ticks)).2
      unfold whoK at hw
      rw [hw] at this
      simpa using this (by omega)
    have hr := h.k.rooms i hi
    have ht := h.ts i hi
    have hrl : i < d.k.rooms.length := by rw [hd.k.rl]; exact hlt
    have hrl2 : i < e.k.rooms.length := by rw [he.k.rl]; show i < (purgeC R 0 p.code).length; rw [purgeC_len]; exact hlt
    have htl : i < d.ts.length := by rw [hd.tl]; exact hlt
    have htl2 : i < e.ts.length := by rw [he.tl]; show i < (purgeC R 0 p.code).length; rw [purgeC_len]; exact hlt
    have er : d.k.rooms.getD i stNew = e.k.rooms.getD i stNew := by rw [List.getD, List.getD, hr]
    have et : d.ts.getD i 0 = e.ts.getD i 0 := by rw [List.getD, List.getD, ht]
    have ec : (purgeP p R).code.getD i [] = p.code.getD i [] := by
      show (purgeC R 0 p.code).getD i [] = _
      rw [List.getD, List.getD, purgeC_at, Nat.zero_add]
      simp [hi]
    have eb : caresB what most e i = caresB what most d i := by
      unfold caresB
      rw [er, et]
    have eh : ∀ s, helpS (purgeP p R) what i s = helpS p what i s := fun s => by
      unfold helpS
      rw [ec]
    unfold helpC
    rw [ew, hw, Int.toNat_natCast, eb]
    by_cases hcb : (0 : Int) ≤ (i : Int) ∧ caresB what most d i = true
    · rw [if_pos hcb, if_pos hcb]
      simp only [eh, ← er, ← et]
      first
        | rw [List.getElem?_set_self hrl, List.getElem?_set_self hrl2]
        | rw [List.getElem?_set_self htl, List.getElem?_set_self htl2]
    · rw [if_neg hcb, if_neg hcb]
      first
        | exact hr
        | exact ht
/-- NO OTHER ROOM SEES IT: one tick. -/
theorem simC_tick {p : PD} {R : Nat → Bool} {what : List Int} {most : Int} {d e : CD} (hp : plchk p = 0) (hd : COk p what most d) (he : COk (purgeP p R) what most e) (hc : ClosedR p.wires R) (hw0 : ∀ x ∈ p.wires, 0 ≤ x.1) (h : SimC p.wires R d e) : SimC p.wires R (tickC p what most d) (tickC (purgeP p R) what most e) := by
  have hh := simC_help hd he hp h
  exact ⟨sim_tick hp (helpC_ok hp hd).k (helpC_ok (purge_right R hp) he).k hc hw0 hh.k, hh.ts⟩
end Go.Proofs.YtajfgmlockjmhafDoor
namespace Go.Proofs.YtajfgmlockjmhafDoor
open Go.RowKit

/-- How often a room was helped. -/
def timesC (d : CD) (r : Int) : Int := if noRoom d.k r = true then 0 else d.ts.getD r.toNat 0
/-- What package care does, in every world of a kind: K w0 w p what most d cb F: made in the world w0, of the plan p, a kernel with rules lies at block cb; it is d, and all that it has lies in the blocks F. -/
structure CarC (G : World → Prop) where
  K : World → World → PD → List Int → Int → CD → Nat → List Nat → Prop
  all : ∀ w w', G w → Below w.heap.size w w' → G w'
  since : ∀ {w0 w p what most d cb F}, K w0 w p what most d cb F → Below w0.heap.size w0 w
  ge : ∀ {w0 w p what most d cb F}, K w0 w p what most d cb F → ∀ g ∈ F, w0.heap.size ≤ g ∧ g < w.heap.size
  lower : ∀ {w1 w0 w p what most d cb F}, Below w1.heap.size w1 w0 → K w0 w p what most d cb F → K w1 w p what most d cb F
  frame : ∀ {w0 w w' p what most d cb F M}, K w0 w p what most d cb F → KTouch M w w' → (∀ m ∈ M, m ∉ F ∧ w0.heap.size ≤ m) → K w0 w' p what most d cb F
  new : ∀ (p : PD) (vc vs vw wv : Value) (what : List Int) (most : Int) (W : World), G W → Pln W vc vs vw p → Stp W wv what → carE p what most = 0 → Calls Tryd.prog 15 #[plV vc p.ticks vs vw, wv, .int .i64 most] W fun e w' => ∃ cb F, e = .returned (.tuple #[.pointer (some ⟨cb, 0, none⟩), .nilIface]) ∧ K W w' p what most (newC p) cb F
  no : ∀ (p : PD) (vc vs vw wv : Value) (what : List Int) (most : Int) (W : World), G W → Pln W vc vs vw p → Stp W wv what → carE p what most ≠ 0 → Calls Tryd.prog 15 #[plV vc p.ticks vs vw, wv, .int .i64 most] W fun e w' => ∃ x, e = .returned (.tuple #[.pointer x, wErr (carE p what most)]) ∧ Below W.heap.size W w'
  tick : ∀ {w0 W p what most d cb F}, G w0 → K w0 W p what most d cb F → carE p what most = 0 → COk p what most d → d.k.time < 100000000 → Calls Tryd.prog 16 #[.pointer (some ⟨cb, 0, none⟩)] W fun e w' => e = .returned (evA (evC p what most d)) ∧ ∃ F', K w0 w' p what most (tickC p what most d) cb F' ∧ KTouch F W w' ∧ ∀ g ∈ F', g ∈ F ∨ W.heap.size ≤ g
  state : ∀ {w0 W p what most d cb F} (r : Int), K w0 W p what most d cb F → COk p what most d → carE p what most = 0 → Calls Tryd.prog 21 #[.pointer (some ⟨cb, 0, none⟩), .int .i64 r] W fun e w' => e = .returned (.tuple #[stA (roomK d.k r), wErr (errB (noRoom d.k r))]) ∧ Below W.heap.size W w'
  times : ∀ {w0 W p what most d cb F} (r : Int), K w0 W p what most d cb F → COk p what most d → carE p what most = 0 → Calls Tryd.prog 17 #[.pointer (some ⟨cb, 0, none⟩), .int .i64 r] W fun e w' => e = .returned (.tuple #[.int .i64 (timesC d r), wErr (errB (noRoom d.k r))]) ∧ Below W.heap.size W w'
end Go.Proofs.YtajfgmlockjmhafDoor
namespace Go.Proofs.YtajfgmlockjmhafDoor
open Go.RowKit

/-- No plan. -/
def noPlan : PD := ⟨[], 0, [], []⟩
/-- The plan without those that cannot tell a room. -/
def prgP (p : PD) (r : Int) : PD := if prgE p r = 0 then purgeP p (fun i => way p.wires i r.toNat) else noPlan
def PrgPurge (G : World → Prop) : Prop := ∀ (p : PD) (vc vs vw : Value) (r : Int) (W : World), G W → Pln W vc vs vw p → Calls Tryd.prog 19 #[plV vc p.ticks vs vw, .int .i64 r] W fun e w' => ∃ ic is iw, e = .returned (.tuple #[plV ic (prgP p r).ticks is iw, wErr (prgE p r)]) ∧ Pln w' ic is iw (prgP p r) ∧ Below W.heap.size W w'
end Go.Proofs.YtajfgmlockjmhafDoor
namespace Go.Proofs.YtajfgmlockjmhafDoor
open Go.RowKit
/-- Numbers as cells. -/
def ints (xs : List Int) : List Value := xs.map (Value.int .i64)
theorem ints_snoc (xs : List Int) (n : Int) : ints (xs ++ [n]) = ints xs ++ [.int .i64 n] := by simp [ints]
theorem ints_len (xs : List Int) : (ints xs).length = xs.length := by simp [ints]
theorem ints_at {xs : List Int} {i : Nat} {x : Int} (h : xs[i]? = some x) : (ints xs)[i]? = some (.int .i64 x) := by simp [ints, h]
/-- A row is as it was where its block is. -/
theorem own_block {w w' : World} {base : Nat} {e : TypeId} {size : Nat} {v : Value} {n : Nat} {xs : List Value} (h : w.ownsRow base e size v n xs) (hb : ∀ k, v.ownBlock = some k → w'.heap[k]? = w.heap[k]?) : w'.ownsRow base e size v n xs := by
  refine ⟨h.1, ?_⟩
  rcases h.2 with h2 | ⟨g, cap, cur, rfl, h3, h4, r⟩
  · exact Or.inl h2
  · exact Or.inr ⟨g, cap, cur, rfl, h3, (hb g rfl).trans h4, r⟩
theorem own_below {w w' : World} {base B : Nat} {e : TypeId} {size : Nat} {v : Value} {n : Nat} {xs : List Value} (h : w.ownsRow base e size v n xs) (hb : Below B w w') (hB : w.heap.size ≤ B) : w'.ownsRow base e size v n xs :=
  own_block h fun k hk => hb.block k (by have := (h.lt k hk).2; omega)
/-- A row that is cut. -/
theorem own_cut {w : World} {base : Nat} {e : TypeId} {g n cap k : Nat} {xs : List Value} (h : w.ownsRow base e 1 (.slice (some ⟨g, 0, none⟩) n cap) n xs) (hk : k ≤ n) : w.ownsRow base e 1 (.slice (some ⟨g, 0, none⟩) k cap) k (xs.take k) := by
  rcases h.2 with ⟨h2, _⟩ | ⟨g', cap', cur, e0, h3, h4, h5, h6, h7, h8⟩
  · cases h2
  · injection e0 with e1 _ e3
    injection e1 with e1
    injection e1 with e1
    subst e1
    subst e3
    refine ⟨by have := h.1; simp at this ⊢; omega, Or.inr ⟨g, cap, cur, rfl, h3, h4, by omega, h6, h7, ?_⟩⟩
    rw [← h8, List.take_take]
    congr 1
    omega
theorem own_cap {w : World} {base : Nat} {e : TypeId} {g n cap : Nat} {xs : List Value} (h : w.ownsRow base e 1 (.slice (some ⟨g, 0, none⟩) n cap) n xs) : base ≤ g ∧ g < w.heap.size ∧ n ≤ cap ∧ cap ≤ maxLen ∧ (∀ i x, xs[i]? = some x → w.cell? ⟨g, i, none⟩ = some x) ∧ (∀ i, i < cap → (w.cell? ⟨g, i, none⟩).isSome = true) ∧ (∀ i, w.frozen? ⟨g, i, none⟩ = false) := by
  have hl := h.lt g rfl
  rcases h.2 with ⟨h2, _⟩ | ⟨g', cap', cur, e0, h3, h4, h5, h6, h7, h8⟩
  · cases h2
  · injection e0 with e1 _ e3
    injection e1 with e1
    injection e1 with e1
    subst e1
    subst e3
    refine ⟨hl.1, hl.2, h5, h6, fun i x hx => ?_, fun i hi => ?_, fun i => by simp [World.frozen?, h4]⟩
    · have := h.cells (g := g) rfl i x hx
      rwa [Addr.add_lit, Nat.zero_add] at this
    · have hi' : i < cur.size := by omega
      simp [World.cell?, h4, hi']
theorem row_form {w : World} {base : Nat} {e : TypeId} {v : Value} {n : Nat} {xs : List Value} (h : w.ownsRow base e 1 v n xs) : (v = .slice none 0 0 ∧ n = 0) ∨ ∃ g cap, v = .slice (some ⟨g, 0, none⟩) n cap := by
  rcases h.2 with h2 | ⟨g, cap, _, rfl, _⟩
  · exact Or.inl h2
  · exact Or.inr ⟨g, cap, rfl⟩
theorem infoInt : (Tryd.prog.info? 3).map (fun i => (i.zero, i.size, i.bytes)) = some (some (.int .i64 0), 1, 8) := by kernel_rfl

theorem one_new (w : World) (x : Value) (t : TypeId) : ∀ j u, [x][j]? = some u → (w.alloc (.cells #[x] t)).cell? ((⟨w.heap.size, 0, none⟩ : Addr).add j) = some u := by
  intro j u hj
  match j, hj with
  | 0, hj => simp at hj; subst hj; simp [Addr.add]
theorem one_new_at {w : World} {k : Nat} (hk : k = w.heap.size) (x : Value) (t : TypeId) : ∀ j u, [x][j]? = some u → (w.alloc (.cells #[x] t)).cell? ((⟨k, 0, none⟩ : Addr).add j) = some u := by
  subst hk
  exact one_new w x t
theorem one_one (n : Int) : ∀ u ∈ [Value.int .i64 n], u.oneCell' = true := by
  intro u hu
  simp at hu
  subst hu
  rfl
/-- append onto a row that the call owns: where the new row lies. -/
theorem wpList_append_at {P : Program} {ops : Array Oper} {rest : List Oper} {o : Oper} {a : Act} {Q : Exit → Act → World → Prop} (w : World) (hgd : o.guard = none) (s x : Operand) (t : TypeId)
    (ho : o.op = .call { callee := .builtin .append, args := #[s, x], argTypes := #[t, t] })
    (base : Nat) (e : TypeId) (i : TypeInfo) (z : Value) (size bytes : Nat) (ht : P.underlying t = some (.slice e)) (hi : P.info? e = some i) (hz : i.zero = some z)
    (hsize : i.size = size) (hby : i.bytes = bytes) (hzs : z.cells.size = size) (hsz : 0 < size)
    (v : Value) (n : Nat) (xs : List Value) (hs : a.eval s = v) (hown : w.ownsRow base e size v n xs)
    (ad : Addr) (m c : Nat) (news : List Value) (hx : a.eval x = .slice (some ad) m c) (hl : news.length = m * size) (hnews : ∀ j u, news[j]? = some u → w.cell? (ad.add j) = some u) (h1 : ∀ u ∈ news, u.oneCell' = true)
    (h63 : n + m ≤ maxLen) (hbytes : (n + m) * bytes ≤ 140737488355328) (hbase : base ≤ w.heap.size)
    (h : ∀ v' w', w'.ownsRow base e size v' (n + m) (xs ++ news) → w.grownBy w' v.ownBlock → (∀ k, v'.ownBlock = some k → v.ownBlock = some k ∨ w.heap.size ≤ k) → wpList P ops Q rest (a.put o.dst v') w') : wpList P ops Q (o :: rest) a w := by
  obtain ⟨v', w', hr, h2, h3, h4⟩ := run_append_own (P := P) w base t o.type e i z size bytes ht hi hz hsize hby hzs hsz v n xs hown ad m c news hl hnews h1 h63 hbytes hbase
  have hw : ∀ k, v'.ownBlock = some k → v.ownBlock = some k ∨ w.heap.size ≤ k := by
    have h63' : n + m ≤ 9223372036854775807 := by simpa [maxLen] using h63
    subst hsize
    subst hby
    intro k hk
    rcases hown.2 with ⟨rfl, rfl⟩ | ⟨g, cap, cur, rfl, hbg, hg, hnc, hcm, hcs, htake⟩
    · by_cases hm : m = 0
      · rw [h4.2 ⟨rfl, hm⟩] at hk
        cases hk
      · have hr2 := run_append_nil (P := P) w t o.type e i z ht hi hz ad m c news hl hnews (by omega) (by omega) (by have hb := hbytes; simp only [Nat.zero_add] at hb; omega)
        rw [hr] at hr2
        injection hr2 with e1 e2
        subst e1
        simp only [Value.ownBlock, Option.some.injEq] at hk
        right
        omega
    · by_cases hroom : n + m ≤ cap
      · have hfit : n * i.size + news.length ≤ cur.size := by rw [hl, hcs, ← Nat.add_mul]; exact Nat.mul_le_mul_right _ hroom
        have hr2 := run_append_room (P := P) w t o.type e i ht hi g n cap cur hg ad m c news hl hnews h1 hroom hfit
        rw [hr] at hr2
        injection hr2 with e1 e2
        subst e1
        left
        exact hk
      · have holds : ∀ j u, xs[j]? = some u → w.cell? ((⟨g, 0, none⟩ : Addr).add j) = some u := hown.cells (g := g) rfl
        have hr2 := run_append_grow (P := P) w t o.type e i z ht hi hz ⟨g, 0, none⟩ n cap xs hown.1 holds ad m c news hl hnews (by omega) (by omega) (growslice_fits (by omega) hbytes)
        rw [hr] at hr2
        injection hr2 with e1 e2
        subst e1
        simp only [Value.ownBlock, Option.some.injEq] at hk
        right
        omega
  refine wpList_plain hgd fun K hK => ?_
  unfold Oper.wp execOp
  simp only [ho, resolve, invoke, builtin, Sem.run_bind, Sem.run_pure, Result.andThen_ok, List.map_toArray, List.map_cons, List.map_nil, hs, hx, hr]
  exact hK _ _ (h v' w' h2 h3 hw)

theorem append_none (ao : Option Addr) (cap : Nat) (W : World) (ty : TypeId) : (Builtin.append_ #[43, 43] ty #[.slice none 0 0, .slice ao 0 cap]).run Tryd.prog W = .ok (.slice none 0 0) W := by
  obtain ⟨ii, hi, hz0, hz1, hz2⟩ := info_parts infoInt
  cases ao <;> simp [Builtin.append_, run_underlying Tryd.underlying43, sizeOf, typeInfo, hi, Builtin.lenOf, Builtin.firstCells, loadCells, loadCellsFrom]
theorem wpList_append_eq {P : Program} {ops : Array Oper} {rest : List Oper} {o : Oper} {a : Act} {w : World} {Q : Exit → Act → World → Prop} (hgd : o.guard = none) (s x : Operand) (t : TypeId)
    (ho : o.op = .call { callee := .builtin .append, args := #[s, x], argTypes := #[t, t] }) (v1 v2 : Value) (hs : a.eval s = v1) (hx : a.eval x = v2) (v' : Value) (w' : World)
    (hr : (Builtin.append_ #[t, t] o.type #[v1, v2]).run P w = .ok v' w') (h : wpList P ops Q rest (a.put o.dst v') w') : wpList P ops Q (o :: rest) a w := by
  refine wpList_plain hgd fun K hK => ?_
  unfold Oper.wp execOp
  simp only [ho, resolve, invoke, builtin, Sem.run_bind, Sem.run_pure, Result.andThen_ok, List.map_toArray, List.map_cons, List.map_nil, hs, hx, hr]
  exact hK _ _ h
end Go.Proofs.YtajfgmlockjmhafDoor
namespace Go.Proofs.YtajfgmlockjmhafDoor
open Go.RowKit

/-- The cells of wires, one behind the other. -/
def wrCells (l : List W4) : List Value := l.flatMap fun o => [.int .i64 o.1, .int .i64 o.2.1, .int .i64 o.2.2.1, .int .i64 o.2.2.2]
theorem wrCells_snoc (l : List W4) (o : W4) : wrCells (l ++ [o]) = wrCells l ++ [.int .i64 o.1, .int .i64 o.2.1, .int .i64 o.2.2.1, .int .i64 o.2.2.2] := by simp [wrCells]
theorem wrCells_len : ∀ (l : List W4), (wrCells l).length = l.length * 4
  | [] => rfl
  | x :: l => by
    have := wrCells_len l
    have e : wrCells (x :: l) = [.int .i64 x.1, .int .i64 x.2.1, .int .i64 x.2.2.1, .int .i64 x.2.2.2] ++ wrCells l := by simp [wrCells]
    rw [e, List.length_append, this]
    simp
    omega
theorem wrCells_one (l : List W4) : ∀ u ∈ wrCells l, u.oneCell' = true := by
  intro u hu
  simp only [wrCells, List.mem_flatMap] at hu
  obtain ⟨o, _, hu⟩ := hu
  simp at hu
  rcases hu with rfl | rfl | rfl | rfl <;> rfl
theorem wrCells_at : ∀ (l : List W4) (i : Nat) (o : W4), l[i]? = some o → (wrCells l)[i * 4]? = some (.int .i64 o.1) ∧ (wrCells l)[i * 4 + 1]? = some (.int .i64 o.2.1) ∧ (wrCells l)[i * 4 + 2]? = some (.int .i64 o.2.2.1) ∧ (wrCells l)[i * 4 + 3]? = some (.int .i64 o.2.2.2)
  | [], i, o, h => by simp at h
  | x :: l, 0, o, h => by
    simp at h
    subst h
    simp [wrCells]
  | x :: l, i + 1, o, h => by
    have := wrCells_at l i o (by simpa using h)
    have e : wrCells (x :: l) = [.int .i64 x.1, .int .i64 x.2.1, .int .i64 x.2.2.1, .int .i64 x.2.2.2] ++ wrCells l := by simp [wrCells]
    rw [e]
    refine ⟨?_, ?_, ?_, ?_⟩
    · rw [List.getElem?_append_right (by simp; omega)]
      simpa [show (i + 1) * 4 - 4 = i * 4 by omega] using this.1
    · rw [List.getElem?_append_right (by simp; omega)]
      simpa [show (i + 1) * 4 + 1 - 4 = i * 4 + 1 by omega] using this.2.1
    · rw [List.getElem?_append_right (by simp; omega)]
      simpa [show (i + 1) * 4 + 2 - 4 = i * 4 + 2 by omega] using this.2.2.1
    · rw [List.getElem?_append_right (by simp; omega)]
      simpa [show (i + 1) * 4 + 3 - 4 = i * 4 + 3 by omega] using this.2.2.2
theorem wrs_of_own {w : World} {base : Nat} {v : Value} {l : List W4} (h : w.ownsRow base 83 4 v l.length (wrCells l)) : Wrs w v l := by
  have hl := h.lt
  have hcs := @World.ownsRow.cells _ _ _ _ _ _ _ h
  rcases h.2 with ⟨rfl, h0⟩ | ⟨g, cap, cur, rfl, _, _, hcap, _⟩
  · exact Or.inl ⟨List.eq_nil_of_length_eq_zero h0, _, _, rfl⟩
  · have hat : ∀ j u, (wrCells l)[j]? = some u → w.cell? ⟨g, j, none⟩ = some u := fun j u hu => by
      have := hcs rfl j u hu
      unfold Addr.add at this
      split at this
      · rename_i h0; subst h0; exact this
      · simpa using this
    refine Or.inr ⟨g, 0, cap, rfl, hcap, (hl g rfl).2, fun i o ho => ?_⟩
    obtain ⟨h1, h2, h3, h4⟩ := wrCells_at l i o ho
    exact ⟨by simpa using hat _ _ h1, by simpa using hat _ _ h2, by simpa using hat _ _ h3, by simpa using hat _ _ h4⟩
theorem infoWr : (Tryd.prog.info? 83).map (fun i => (i.zero, i.size, i.bytes)) = some (some (.agg #[.int .i64 0, .int .i64 0, .int .i64 0, .int .i64 0]), 4, 32) := by kernel_rfl
theorem wr_new {w : World} {k : Nat} (hk : k = w.heap.size) (x y z u : Value) (t : TypeId) : ∀ j q, [x, y, z, u][j]? = some q → (w.alloc (.cells #[x, y, z, u] t)).cell? ((⟨k, 0, none⟩ : Addr).add j) = some q := by
  subst hk
  intro j q hj
  match j, hj with
  | 0, hj => simp at hj; subst hj; simp [Addr.add]
  | 1, hj => simp at hj; subst hj; simp [Addr.add]
  | 2, hj => simp at hj; subst hj; simp [Addr.add]
  | 3, hj => simp at hj; subst hj; simp [Addr.add]
theorem four_one (a b c d : Int) : ∀ u ∈ [Value.int .i64 a, .int .i64 b, .int .i64 c, .int .i64 d], u.oneCell' = true := by
  intro u hu
  simp at hu
  rcases hu with rfl | rfl | rfl | rfl <;> rfl
theorem own4_form {w : World} {base : Nat} {e : TypeId} {size : Nat} {v : Value} {n : Nat} {xs : List Value} (R : w.ownsRow base e size v n xs) : ∃ g cap, v = .slice g n cap := by
  rcases R.2 with ⟨h, h0⟩ | ⟨g, cap, cur, h, _⟩
  · exact ⟨_, _, by rw [h0]; exact h⟩
  · exact ⟨_, _, h⟩
end Go.Proofs.YtajfgmlockjmhafDoor
namespace Go.Proofs.YtajfgmlockjmhafDoor
open Go.RowKit

theorem own_two {w : World} {base base' : Nat} {e e' : TypeId} {size size' : Nat} {v v' : Value} {n n' : Nat} {xs xs' : List Value} (h : w.ownsRow base e size v n xs) (h' : w.ownsRow base' e' size' v' n' xs') (he : e ≠ e') : ∀ g, v.ownBlock = some g → v'.ownBlock ≠ some g := fun g hg hg' => by
  rcases h.2 with ⟨rfl, _⟩ | ⟨g1, c1, u1, rfl, _, hb1, _⟩
  · cases hg
  · rcases h'.2 with ⟨rfl, _⟩ | ⟨g2, c2, u2, rfl, _, hb2, _⟩
    · cases hg'
    · simp only [Value.ownBlock, Option.some.injEq] at hg hg'
      subst hg
      subst hg'
      rw [hb1] at hb2
      simp only [Option.some.injEq, Obj.cells.injEq] at hb2
      exact he hb2.2.1
end Go.Proofs.YtajfgmlockjmhafDoor
namespace Go.Proofs.YtajfgmlockjmhafDoor
open Go.RowKit

/-- What lies in fours can be read cell by cell. -/
theorem quad_at {w : World} {b : Nat} : ∀ (l : List W4) (off : Nat), WrC w b off l → ∀ j u, (wrCells l)[j]? = some u → w.cell? ((⟨b, off, none⟩ : Addr).add j) = some u
  | [], off, _, j, u, hj => by simp [wrCells] at hj
  | x :: l, off, h, j, u, hj => by
    have e : wrCells (x :: l) = [.int .i64 x.1, .int .i64 x.2.1, .int .i64 x.2.2.1, .int .i64 x.2.2.2] ++ wrCells l := by simp [wrCells]
    rw [e] at hj
    obtain ⟨h0, h1, h2, h3⟩ := h 0 x (by simp)
    rw [Addr.add_lit]
    match j, hj with
    | 0, hj => simp at hj; subst hj; simpa using h0
    | 1, hj => simp at hj; subst hj; simpa using h1
    | 2, hj => simp at hj; subst hj; simpa using h2
    | 3, hj => simp at hj; subst hj; simpa using h3
    | j + 4, hj =>
      rw [List.getElem?_append_right (by simp)] at hj
      have ih := quad_at l (off + 4) (fun i o ho => by
        have := h (i + 1) o (by simpa using ho)
        rw [show off + (i + 1) * 4 = off + 4 + i * 4 by omega] at this
        exact this) j u (by simpa using hj)
      rw [Addr.add_lit] at ih
      rw [show off + (j + 4) = off + 4 + j by omega]
      exact ih
set_option maxRecDepth 100000 in
set_option maxHeartbeats 4000000 in
theorem clone_wr_nil (cap : Nat) (w : World) : Calls Tryd.prog 68 #[.slice none 0 cap] w fun e w' => e = .returned (.slice none 0 0) ∧ w' = w := by
  have q : ∀ (w : World) (a : Option Addr) (n c n' c' : Nat), (binOp .eql 24 (.slice a n c) (.slice none n' c')).run Tryd.prog w = .ok (.bool a.isNone) w := fun w a n c n' c' => Lib.run_eql_slice_nil w _ _ a n c n' c' Tryd.underlying24
  go_enter Tryd.func68, Tryd.ntmps68
  go_wp2
  go_ret
  exact ⟨rfl, rfl⟩
set_option maxRecDepth 100000 in
set_option maxHeartbeats 4000000 in
theorem clone_wr_some (ad : Addr) (cap : Nat) (l : List W4) (w : World) (hx : l.length ≤ 1000) (hc : ∀ j u, (wrCells l)[j]? = some u → w.cell? (ad.add j) = some u) :
    Calls Tryd.prog 68 #[.slice (some ad) l.length cap] w fun e w' => ∃ v', e = .returned v' ∧ w'.ownsRow w.heap.size 83 4 v' l.length (wrCells l) ∧ Below w.heap.size w w' := by
  obtain ⟨ii, hi, hz0, hz1, hz2⟩ := info_parts infoWr
  have q : ∀ (w : World) (a : Option Addr) (n c n' c' : Nat), (binOp .eql 24 (.slice a n c) (.slice none n' c')).run Tryd.prog w = .ok (.bool a.isNone) w := fun w a n c n' c' => Lib.run_eql_slice_nil w _ _ a n c n' c' Tryd.underlying24
  have HC : Hid (∀ j u, (wrCells l)[j]? = some u → w.cell? (ad.add j) = some u) := hc
  clear hc
  go_enter Tryd.func68, Tryd.ntmps68
  go_wp2_with (at_builtin; refine wpList_append_at _ rfl _ _ 24 rfl w.heap.size 83 ii _ 4 32 Tryd.underlying24 hi hz0 hz1 hz2 rfl (by decide) _ _ _ rfl (World.ownsRow_made w #[] 0 (Nat.le_refl _) (Nat.zero_le _) rfl) ad l.length cap (wrCells l) rfl ?c0A ?c1A ?c2A ?c3A ?c4A ?c5A ?_)
  case c0A => exact wrCells_len l
  case c1A =>
    intro j u hj
    have h := HC.out j u hj
    exact (((Below.refl _ w).alloc (Nat.le_refl _) _).cell (p := ad.add j) (World.block_lt_of_cell? w _ h)).trans h
  case c2A => exact wrCells_one l
  case c3A => unfold maxLen; omega
  case c4A => omega
  case c5A => simp
  intro v1 w2 own1 hg1 hat1
  clear q
  go_wp2
  go_ret
  refine ⟨v1, rfl, by simpa using own1, ((Below.refl _ w).alloc (Nat.le_refl _) _).grown hg1 (by simp) (by intro k hk; simp [Value.ownBlock] at hk; omega)⟩
theorem clone_wrs (l : List W4) (v : Value) (w : World) (h : Wrs w v l) (hx : l.length ≤ 1000) :
    Calls Tryd.prog 68 #[v] w fun e w' => ∃ v', e = .returned v' ∧ w'.ownsRow w.heap.size 83 4 v' l.length (wrCells l) ∧ Below w.heap.size w w' := by
  rcases h with ⟨rfl, ao, cap, rfl⟩ | ⟨b, off, cap, rfl, hcap, hlt, hc⟩
  · cases ao with
    | none =>
      refine (clone_wr_nil cap w).mono ?_
      rintro e w' ⟨rfl, rfl⟩
      exact ⟨_, rfl, World.ownsRow_nil _ _ _ _, Below.refl _ _⟩
    | some ad => exact clone_wr_some ad cap [] w (Nat.zero_le _) (fun j u hj => by simp [wrCells] at hj)
  · exact clone_wr_some ⟨b, off, none⟩ cap l w hx (quad_at l off hc)
end Go.Proofs.YtajfgmlockjmhafDoor
namespace Go.Proofs.YtajfgmlockjmhafDoor
open Go.RowKit

/-- The plan is being made: codes so far. -/
structure QP (b0 : Nat) (w1 W : World) (p : PD) (R : Nat → Bool) (kb : Nat) (vs vw cv : Value) (us : List Value) : Prop where
  tk : KTouch [kb] w1 W
  kl : kb < w1.heap.size
  k0 : b0 ≤ kb
  blk : W.heap[kb]? = some (.cells #[cv, .int .i64 p.ticks, vs, vw] 26 (0, 0))
  own : W.ownsRow w1.heap.size 36 1 cv us.length us
  ops : ∀ (i : Nat) u c, us[i]? = some u → p.code[i]? = some c → Ops W u (if R i = true then c else restC)
  ap : ∀ u ∈ us, ∀ g, u.ownBlock = some g → (g < b0 ∨ w1.heap.size ≤ g) ∧ g < W.heap.size ∧ cv.ownBlock ≠ some g
  len : us.length ≤ p.code.length
theorem QP.cs {b0 : Nat} {w1 W : World} {p : PD} {R : Nat → Bool} {kb : Nat} {vs vw cv : Value} {us : List Value} (h : QP b0 w1 W p R kb vs vw cv us) : W.cell? ⟨kb, 0, none⟩ = some cv ∧ W.cell? ⟨kb, 1, none⟩ = some (.int .i64 p.ticks) ∧ W.cell? ⟨kb, 2, none⟩ = some vs ∧ W.cell? ⟨kb, 3, none⟩ = some vw ∧ W.frozen? ⟨kb, 0, none⟩ = false := by
  have e := h.blk
  simp [World.cell?, World.frozen?, e]
/-- One code more: one of the plan's, or one that rests. -/
theorem QP.more {b0 : Nat} {w1 W w2 wa : World} {p : PD} {R : Nat → Bool} {kb : Nat} {vs vw cv cv' u : Value} {us : List Value} {c : List O3} (h : QP b0 w1 W p R kb vs vw cv us) (hc : p.code[us.length]? = some c) (b2 : Below W.heap.size W w2) (hu : Ops w2 u (if R us.length = true then c else restC))
    (hua : ∀ g, u.ownBlock = some g → (g < b0 ∨ W.heap.size ≤ g) ∧ g < w2.heap.size)
    (hg : (w2.alloc (.cells #[u] 36)).grownBy wa cv.ownBlock) (hown : wa.ownsRow w1.heap.size 36 1 cv' (us.length + 1) (us ++ [u])) (hnew : ∀ g, cv'.ownBlock = some g → cv.ownBlock = some g ∨ w2.heap.size + 1 ≤ g) : QP b0 w1 (wa.setCell ⟨kb, 0, none⟩ cv') p R kb vs vw cv' (us ++ [u]) := by
  have b3 : Below W.heap.size W (w2.alloc (.cells #[u] 36)) := b2.alloc b2.size _
  have hs3 : (w2.alloc (.cells #[u] 36)).heap.size = w2.heap.size + 1 := by simp
  have hs := h.tk.size
  have hs2 := b2.size
  have hga := hg.size
  rw [hs3] at hga
  have hkl := h.kl
  have hk0 := h.k0
  have hcr : ∀ k, cv.ownBlock = some k → w1.heap.size ≤ k ∧ k < W.heap.size := fun k hk => h.own.lt k hk
  have hset : ∀ k, k ≠ kb → (wa.setCell ⟨kb, 0, none⟩ cv').heap[k]? = wa.heap[k]? := fun k hk => Below.heap_setCell _ _ _ _ hk
  have hsz2 : (wa.setCell ⟨kb, 0, none⟩ cv').heap.size = wa.heap.size := by simp
  have hold : ∀ k, k < w2.heap.size → k ≠ kb → cv.ownBlock ≠ some k → (wa.setCell ⟨kb, 0, none⟩ cv').heap[k]? = w2.heap[k]? := fun k h2 h3 h4 => (hset k h3).trans ((hg.block k (by rw [hs3]; omega) (fun e => h4 e.symm)).trans (((Below.refl _ w2).alloc (Nat.le_refl _) _).block k h2))
  have hune : ∀ g, u.ownBlock = some g → g ≠ kb ∧ cv.ownBlock ≠ some g := fun g hg' => by
    obtain ⟨h1, _⟩ := hua g hg'
    refine ⟨by omega, fun e => ?_⟩
    have := hcr g e
    omega
  refine ⟨⟨(hg.os.trans (b3.os.trans h.tk.os)), (hg.tape.trans (b3.tape.trans h.tk.tape)), (hg.output.trans (b3.output.trans h.tk.output)), by omega, fun k hk hm => ?_⟩, h.kl, h.k0, ?_, ?_, fun i x d hx hd => ?_, fun x hx g hgx => ?_, ?_⟩
  · have hkk : k ≠ kb := fun e => hm (by simp [e])
    refine (hset k hkk).trans ((hg.block k (by rw [hs3]; omega) (fun e => ?_)).trans ((b3.block k (by omega)).trans (h.tk.block k hk hm)))
    have := (hcr k e.symm).1
    omega
  · have hlt : kb < W.heap.size := by omega
    have e : wa.heap[kb]? = some (.cells #[cv, .int .i64 p.ticks, vs, vw] 26 (0, 0)) := (hg.block kb (by rw [hs3]; omega) (fun e => by have := (hcr kb e.symm).1; omega)).trans ((b3.block kb hlt).trans h.blk)
    simp [World.setCell, Array.getElem?_modify, e]
  · rw [List.length_append]
    exact ownsRow_setCell_below hown (a := ⟨kb, 0, none⟩) h.kl cv'
  · by_cases hi : i < us.length
    · rw [List.getElem?_append_left hi] at hx
      have ho := h.ops i x d hx hd
      refine (ho.all b2).block (fun k hk he => ?_) (by omega)
      obtain ⟨h1, h2, h3⟩ := h.ap x (List.mem_of_getElem? hx) k he
      exact hold k hk (by omega) h3
    · have hlt := (List.getElem?_eq_some_iff.1 hx).1
      rw [List.length_append, List.length_singleton] at hlt
      obtain rfl : i = us.length := by omega
      rw [List.getElem?_append_right (Nat.le_refl _), Nat.sub_self] at hx
      simp only [List.getElem?_cons_zero, Option.some.injEq] at hx
      subst hx
      rw [hc] at hd
      obtain rfl := Option.some.inj hd
      exact hu.block (fun k hk he => hold k hk (hune k he).1 (hune k he).2) (by omega)
  · rcases List.mem_append.1 hx with h1 | h1
    · obtain ⟨h2, h3, h4⟩ := h.ap x h1 g hgx
      refine ⟨h2, by omega, fun e => ?_⟩
      rcases hnew g e with h5 | h5
      · exact h4 h5
      · omega
    · rw [List.mem_singleton] at h1
      subst h1
      obtain ⟨h2, h3⟩ := hua g hgx
      refine ⟨by omega, by omega, fun e => ?_⟩
      rcases hnew g e with h5 | h5
      · exact (hune g hgx).2 h5
      · omega
  · rw [List.length_append, List.length_singleton]
    exact (List.getElem?_eq_some_iff.1 hc).1
/-- All of them, read elsewhere than in two blocks of the caller's. -/
theorem QP.cds {b0 : Nat} {w1 W W' : World} {p : PD} {R : Nat → Bool} {kb : Nat} {vs vw cv : Value} {us : List Value} (h : QP b0 w1 W p R kb vs vw cv us) (hl : us.length = p.code.length) {M : List Nat} (ht : KTouch M W W') (hM : ∀ m ∈ M, b0 ≤ m ∧ m < w1.heap.size) : Cds W' cv (purgeC R 0 p.code) := by
  have hrl := h.own.lt
  have hcs := @World.ownsRow.cells _ _ _ _ _ _ _ h.own
  have hlen : (purgeC R 0 p.code).length = us.length := by rw [purgeC_len, hl]
  rcases h.own.2 with ⟨rfl, h0⟩ | ⟨g, cap, cur, rfl, hge, _, hcap, _⟩
  · exact Or.inl ⟨List.eq_nil_of_length_eq_zero (by rw [hlen]; exact h0), _, _, rfl⟩
  · refine Or.inr ⟨g, 0, cap, by rw [hlen], by rw [hlen]; exact hcap, Nat.lt_of_lt_of_le (hrl g rfl).2 ht.size, fun i d hd => ?_⟩
    rw [purgeC_at] at hd
    obtain ⟨c, hc, hcd⟩ := Option.map_eq_some_iff.1 hd
    have hil : i < us.length := by rw [hl]; exact (List.getElem?_eq_some_iff.1 hc).1
    have hu : us[i]? = some us[i] := List.getElem?_eq_getElem hil
    have hcell := hcs rfl i _ hu
    rw [Addr.add_lit] at hcell
    refine ⟨us[i], (World.cell?_of_block (w := W) (a := ⟨g, _, none⟩) (ht.block g (hrl g rfl).2 (fun hm => ?_))).trans hcell, ?_⟩
    · have := (hM g hm).2
      omega
    · rw [← hcd, Nat.zero_add]
      refine (h.ops i _ c hu hc).block (fun k hk he => ht.block k hk (fun hm => ?_)) ht.size
      obtain ⟨h1, _, _⟩ := h.ap _ (List.mem_of_getElem? hu) k he
      have := hM k hm
      omega
theorem rest_ops {w : World} {k : Nat} (hk : k = w.heap.size) : Ops (w.alloc (.cells #[.int .i64 10, .int .i64 0, .int .i64 0] 57)) (.slice (some ⟨k, 0, none⟩) 1 1) restC := by
  subst hk
  refine Or.inr ⟨w.heap.size, 0, 1, rfl, by simp, fun i o ho => ?_⟩
  match i, ho with
  | 0, ho => simp [restC] at ho; subst ho; simp [go_sem]
  | i + 1, ho => simp [restC] at ho
end Go.Proofs.YtajfgmlockjmhafDoor
namespace Go.Proofs.YtajfgmlockjmhafDoor
open Go.RowKit

/-- A row and a block of another type lie apart. -/
theorem own_not {w : World} {base : Nat} {e t : TypeId} {size : Nat} {v : Value} {n kb : Nat} {xs : List Value} {cs : Array Value} {q : Nat × Nat} (h : w.ownsRow base e size v n xs) (hb : w.heap[kb]? = some (.cells cs t q)) (he : e ≠ t) : ∀ g, v.ownBlock = some g → g ≠ kb := fun g hg hgk => by
  rcases h.2 with ⟨rfl, _⟩ | ⟨g1, c1, u1, rfl, _, hb1, _⟩
  · cases hg
  · simp only [Value.ownBlock, Option.some.injEq] at hg
    subst hg
    subst hgk
    rw [hb1] at hb
    simp only [Option.some.injEq, Obj.cells.injEq] at hb
    exact he hb.2.1
theorem purgeC_all (l : List (List O3)) (i : Nat) : purgeC (fun _ => true) i l = l := by
  refine List.ext_getElem? fun j => ?_
  rw [purgeC_at]
  cases l[j]? <;> simp
/-- Its rows. -/
structure PlO (w : World) (b : Nat) (cv sv wv : Value) (p : PD) (us : List Value) : Prop where
  own : w.ownsRow b 36 1 cv us.length us
  len : us.length = p.code.length
  ops : ∀ (i : Nat) u c, us[i]? = some u → p.code[i]? = some c → Ops w u c
  ap : ∀ u ∈ us, ∀ g, u.ownBlock = some g → b ≤ g ∧ g < w.heap.size ∧ cv.ownBlock ≠ some g
  sps : w.ownsRow b 59 3 sv p.spans.length (spCells p.spans)
  wrs : w.ownsRow b 83 4 wv p.wires.length (wrCells p.wires)
/-- Its blocks. -/
def plF (cv sv wv : Value) (us : List Value) : List Nat := (cv :: sv :: wv :: us).filterMap Value.ownBlock
section
variable {w w' : World} {b : Nat} {cv sv wv : Value} {p : PD} {us : List Value}
theorem plF_cv {g : Nat} (h : cv.ownBlock = some g) : g ∈ plF cv sv wv us := List.mem_filterMap.2 ⟨cv, by simp, h⟩
theorem plF_sv {g : Nat} (h : sv.ownBlock = some g) : g ∈ plF cv sv wv us := List.mem_filterMap.2 ⟨sv, by simp, h⟩
theorem plF_wv {g : Nat} (h : wv.ownBlock = some g) : g ∈ plF cv sv wv us := List.mem_filterMap.2 ⟨wv, by simp, h⟩
theorem plF_u {g : Nat} {u : Value} (hu : u ∈ us) (h : u.ownBlock = some g) : g ∈ plF cv sv wv us := List.mem_filterMap.2 ⟨u, by simp [hu], h⟩
theorem PlO.flt (h : PlO w b cv sv wv p us) : ∀ g ∈ plF cv sv wv us, b ≤ g ∧ g < w.heap.size := fun g hg => by
  obtain ⟨v, hv, hvg⟩ := List.mem_filterMap.1 hg
  simp only [List.mem_cons] at hv
  rcases hv with rfl | rfl | rfl | hv
  · exact h.own.lt g hvg
  · exact h.sps.lt g hvg
  · exact h.wrs.lt g hvg
  · exact ⟨(h.ap v hv g hvg).1, (h.ap v hv g hvg).2.1⟩
theorem PlO.lower {b' : Nat} (h : PlO w b cv sv wv p us) (hb : b' ≤ b) : PlO w b' cv sv wv p us :=
  ⟨own_base h.own hb, h.len, h.ops, fun u hu g hg => ⟨Nat.le_trans hb (h.ap u hu g hg).1, (h.ap u hu g hg).2⟩, own_base h.sps hb, own_base h.wrs hb⟩
theorem PlO.kept (h : PlO w b cv sv wv p us) (hs : w.heap.size ≤ w'.heap.size) (hb : ∀ g ∈ plF cv sv wv us, w'.heap[g]? = w.heap[g]?) : PlO w' b cv sv wv p us :=
  ⟨own_block h.own (fun k hk => hb k (plF_cv hk)), h.len, fun i u c hu hc => (h.ops i u c hu hc).block (fun k _ hk => hb k (plF_u (List.mem_of_getElem? hu) hk)) hs, fun u hu g hg => by
    obtain ⟨h1, h2, h3⟩ := h.ap u hu g hg
    exact ⟨h1, by omega, h3⟩, own_block h.sps (fun k hk => hb k (plF_sv hk)), own_block h.wrs (fun k hk => hb k (plF_wv hk))⟩
theorem PlO.cds (h : PlO w b cv sv wv p us) : Cds w cv p.code := by
  have hrl := h.own.lt
  have hcs := @World.ownsRow.cells _ _ _ _ _ _ _ h.own
  rcases h.own.2 with ⟨rfl, h0⟩ | ⟨g, cap, cur, rfl, hge, _, hcap, _⟩
  · exact Or.inl ⟨List.eq_nil_of_length_eq_zero (by rw [← h.len]; exact h0), _, _, rfl⟩
  · refine Or.inr ⟨g, 0, cap, by rw [← h.len], by rw [← h.len]; exact hcap, (hrl g rfl).2, fun i d hd => ?_⟩
    have hil : i < us.length := by rw [h.len]; exact (List.getElem?_eq_some_iff.1 hd).1
    have hu : us[i]? = some us[i] := List.getElem?_eq_getElem hil
    have hcell := hcs rfl i _ hu
    rw [Addr.add_lit] at hcell
    exact ⟨us[i], hcell, h.ops i _ d hu hd⟩
theorem PlO.pln (h : PlO w b cv sv wv p us) : Pln w cv sv wv p := ⟨h.cds, sps_of_own h.sps, wrs_of_own h.wrs⟩
theorem PlO.of_qp {w1 W W' : World} {kb : Nat} {vs vw : Value} (h : QP 0 w1 W p (fun _ => true) kb vs vw cv us) (hl : us.length = p.code.length) {M : List Nat} (ht : KTouch M W W') (hM : ∀ m ∈ M, m < w1.heap.size) (hb : b ≤ w1.heap.size) (hs : W'.ownsRow b 59 3 sv p.spans.length (spCells p.spans)) (hw : W'.ownsRow b 83 4 wv p.wires.length (wrCells p.wires)) : PlO W' b cv sv wv p us := by
  have hz := ht.size
  refine ⟨own_base (own_block h.own (fun k hk => ht.block k (h.own.lt k hk).2 (fun hm => ?_))) hb, hl, fun i u c hu hc => ?_, fun u hu g hg => ?_, hs, hw⟩
  · have h1 := (h.own.lt k hk).1
    have h2 := hM k hm
    omega
  · have ho := h.ops i u c hu hc
    rw [if_pos rfl] at ho
    refine ho.block (fun k hk he => ht.block k hk (fun hm => ?_)) hz
    obtain ⟨h1, _, _⟩ := h.ap u (List.mem_of_getElem? hu) k he
    have := hM k hm
    omega
  · obtain ⟨h1, h2, h3⟩ := h.ap u hu g hg
    exact ⟨by omega, by omega, h3⟩
end
end Go.Proofs.YtajfgmlockjmhafDoor
namespace Go.Proofs.YtajfgmlockjmhafDoor
open Go.RowKit

/-- What lies in threes can be read cell by cell. -/
theorem trio_at {w : World} {b : Nat} : ∀ (l : List (Int × Int × Int)) (off : Nat), (∀ (i : Nat) o, l[i]? = some o → w.cell? ⟨b, off + i * 3, none⟩ = some (.int .i64 o.1) ∧ w.cell? ⟨b, off + i * 3 + 1, none⟩ = some (.int .i64 o.2.1) ∧ w.cell? ⟨b, off + i * 3 + 2, none⟩ = some (.int .i64 o.2.2)) → ∀ j u, (spCells l)[j]? = some u → w.cell? ((⟨b, off, none⟩ : Addr).add j) = some u
  | [], off, _, j, u, hj => by simp [spCells] at hj
  | x :: l, off, h, j, u, hj => by
    have e : spCells (x :: l) = [.int .i64 x.1, .int .i64 x.2.1, .int .i64 x.2.2] ++ spCells l := by simp [spCells]
    rw [e] at hj
    obtain ⟨h0, h1, h2⟩ := h 0 x (by simp)
    rw [Addr.add_lit]
    match j, hj with
    | 0, hj => simp at hj; subst hj; simpa using h0
    | 1, hj => simp at hj; subst hj; simpa using h1
    | 2, hj => simp at hj; subst hj; simpa using h2
    | j + 3, hj =>
      rw [List.getElem?_append_right (by simp)] at hj
      have ih := trio_at l (off + 3) (fun i o ho => by
        have := h (i + 1) o (by simpa using ho)
        rw [show off + (i + 1) * 3 = off + 3 + i * 3 by omega] at this
        exact this) j u (by simpa using hj)
      rw [Addr.add_lit] at ih
      rw [show off + (j + 3) = off + 3 + j by omega]
      exact ih
theorem spCells_len : ∀ l : List (Int × Int × Int), (spCells l).length = l.length * 3
  | [] => rfl
  | x :: l => by
    have e : spCells (x :: l) = [.int .i64 x.1, .int .i64 x.2.1, .int .i64 x.2.2] ++ spCells l := by simp [spCells]
    rw [e, List.length_append, spCells_len l, List.length_cons]
    simp
    omega
theorem spCells_one (l : List (Int × Int × Int)) : ∀ u ∈ spCells l, u.oneCell' = true := by
  intro u hu
  simp only [spCells, List.mem_flatMap] at hu
  obtain ⟨o, _, hu⟩ := hu
  simp at hu
  rcases hu with rfl | rfl | rfl <;> rfl
theorem ginfoOp : (Tryd.prog.info? 57).map (fun i => (i.zero, i.size, i.bytes)) = some (some (.agg #[.int .i64 0, .int .i64 0, .int .i64 0]), 3, 24) := by kernel_rfl
set_option maxRecDepth 100000 in
set_option maxHeartbeats 4000000 in
theorem clone_op_nil (cap : Nat) (w : World) : Calls Tryd.prog 31 #[.slice none 0 cap] w fun e w' => e = .returned (.slice none 0 0) ∧ w' = w := by
  have q : ∀ (w : World) (a : Option Addr) (n c n' c' : Nat), (binOp .eql 36 (.slice a n c) (.slice none n' c')).run Tryd.prog w = .ok (.bool a.isNone) w := fun w a n c n' c' => Lib.run_eql_slice_nil w _ _ a n c n' c' Tryd.underlying36
  go_enter Tryd.func31, Tryd.ntmps31
  go_wp2
  go_ret
  exact ⟨rfl, rfl⟩
set_option maxRecDepth 100000 in
set_option maxHeartbeats 4000000 in
theorem clone_op_some (ad : Addr) (cap : Nat) (l : List (Int × Int × Int)) (w : World) (hx : l.length ≤ 1000) (hc : ∀ j u, (spCells l)[j]? = some u → w.cell? (ad.add j) = some u) :
    Calls Tryd.prog 31 #[.slice (some ad) l.length cap] w fun e w' => ∃ v', e = .returned v' ∧ w'.ownsRow w.heap.size 57 3 v' l.length (spCells l) ∧ Below w.heap.size w w' := by
  obtain ⟨ii, hi, hz0, hz1, hz2⟩ := info_parts ginfoOp
  have q : ∀ (w : World) (a : Option Addr) (n c n' c' : Nat), (binOp .eql 36 (.slice a n c) (.slice none n' c')).run Tryd.prog w = .ok (.bool a.isNone) w := fun w a n c n' c' => Lib.run_eql_slice_nil w _ _ a n c n' c' Tryd.underlying36
  have HC : Hid (∀ j u, (spCells l)[j]? = some u → w.cell? (ad.add j) = some u) := hc
  clear hc
  go_enter Tryd.func31, Tryd.ntmps31
  go_wp2_with (at_builtin; refine wpList_append_at _ rfl _ _ 36 rfl w.heap.size 57 ii _ 3 24 Tryd.underlying36 hi hz0 hz1 hz2 rfl (by decide) _ _ _ rfl (World.ownsRow_made w #[] 0 (Nat.le_refl _) (Nat.zero_le _) rfl) ad l.length cap (spCells l) rfl ?c0A ?c1A ?c2A ?c3A ?c4A ?c5A ?_)
  case c0A => exact spCells_len l
  case c1A =>
    intro j u hj
    have h := HC.out j u hj
    exact (((Below.refl _ w).alloc (Nat.le_refl _) _).cell (p := ad.add j) (World.block_lt_of_cell? w _ h)).trans h
  case c2A => exact spCells_one l
  case c3A => unfold maxLen; omega
  case c4A => omega
  case c5A => simp
  intro v1 w2 own1 hg1 hat1
  clear q
  go_wp2
  go_ret
  refine ⟨v1, rfl, by simpa using own1, ((Below.refl _ w).alloc (Nat.le_refl _) _).grown hg1 (by simp) (by intro k hk; simp [Value.ownBlock] at hk; omega)⟩
theorem clone_ops (l : List O3) (v : Value) (w : World) (h : Ops w v l) (hx : l.length ≤ 1000) :
    Calls Tryd.prog 31 #[v] w fun e w' => ∃ v', e = .returned v' ∧ w'.ownsRow w.heap.size 57 3 v' l.length (spCells l) ∧ Below w.heap.size w w' := by
  rcases h with ⟨rfl, ao, cap, rfl⟩ | ⟨b, off, cap, rfl, hlt, hc⟩
  · cases ao with
    | none =>
      refine (clone_op_nil cap w).mono ?_
      rintro e w' ⟨rfl, rfl⟩
      exact ⟨_, rfl, World.ownsRow_nil _ _ _ _, Below.refl _ _⟩
    | some ad => exact clone_op_some ad cap [] w (Nat.zero_le _) (fun j u hj => by simp [spCells] at hj)
  · exact clone_op_some ⟨b, off, none⟩ cap l w hx (trio_at l off hc)
/-- Ops in a row of their own can be read. -/
theorem gops_own {w : World} {base : Nat} {v : Value} {l : List O3} (h : w.ownsRow base 57 3 v l.length (spCells l)) : Ops w v l := by
  have hl := h.lt
  have hcs := @World.ownsRow.cells _ _ _ _ _ _ _ h
  rcases h.2 with ⟨rfl, h0⟩ | ⟨g, cap, cur, rfl, _, _, hcap, _⟩
  · exact Or.inl ⟨List.eq_nil_of_length_eq_zero h0, _, _, rfl⟩
  · have hat : ∀ j u, (spCells l)[j]? = some u → w.cell? ⟨g, j, none⟩ = some u := fun j u hu => by
      have := hcs rfl j u hu
      rwa [Addr.add_lit, Nat.zero_add] at this
    refine Or.inr ⟨g, 0, cap, rfl, (hl g rfl).2, fun i o ho => ?_⟩
    obtain ⟨h1, h2, h3⟩ := spCells_at l i o ho
    exact ⟨by simpa using hat _ _ h1, by simpa using hat _ _ h2, by simpa using hat _ _ h3⟩
end Go.Proofs.YtajfgmlockjmhafDoor
namespace Go.Proofs.YtajfgmlockjmhafDoor
open Go.RowKit

set_option maxRecDepth 100000 in
set_option maxHeartbeats 4000000 in
theorem clone_sp_nil (cap : Nat) (w : World) : Calls Tryd.prog 41 #[.slice none 0 cap] w fun e w' => e = .returned (.slice none 0 0) ∧ w' = w := by
  have q : ∀ (w : World) (a : Option Addr) (n c n' c' : Nat), (binOp .eql 23 (.slice a n c) (.slice none n' c')).run Tryd.prog w = .ok (.bool a.isNone) w := fun w a n c n' c' => Lib.run_eql_slice_nil w _ _ a n c n' c' Tryd.underlying23
  go_enter Tryd.func41, Tryd.ntmps41
  go_wp2
  go_ret
  exact ⟨rfl, rfl⟩
set_option maxRecDepth 100000 in
set_option maxHeartbeats 4000000 in
theorem clone_sp_some (ad : Addr) (cap : Nat) (l : List (Int × Int × Int)) (w : World) (hx : l.length ≤ 1000) (hc : ∀ j u, (spCells l)[j]? = some u → w.cell? (ad.add j) = some u) :
    Calls Tryd.prog 41 #[.slice (some ad) l.length cap] w fun e w' => ∃ v', e = .returned v' ∧ w'.ownsRow w.heap.size 59 3 v' l.length (spCells l) ∧ Below w.heap.size w w' := by
  obtain ⟨ii, hi, hz0, hz1, hz2⟩ := info_parts infoSp
  have q : ∀ (w : World) (a : Option Addr) (n c n' c' : Nat), (binOp .eql 23 (.slice a n c) (.slice none n' c')).run Tryd.prog w = .ok (.bool a.isNone) w := fun w a n c n' c' => Lib.run_eql_slice_nil w _ _ a n c n' c' Tryd.underlying23
  have HC : Hid (∀ j u, (spCells l)[j]? = some u → w.cell? (ad.add j) = some u) := hc
  clear hc
  go_enter Tryd.func41, Tryd.ntmps41
  go_wp2_with (at_builtin; refine wpList_append_at _ rfl _ _ 23 rfl w.heap.size 59 ii _ 3 24 Tryd.underlying23 hi hz0 hz1 hz2 rfl (by decide) _ _ _ rfl (World.ownsRow_made w #[] 0 (Nat.le_refl _) (Nat.zero_le _) rfl) ad l.length cap (spCells l) rfl ?c0A ?c1A ?c2A ?c3A ?c4A ?c5A ?_)
  case c0A => exact spCells_len l
  case c1A =>
    intro j u hj
    have h := HC.out j u hj
    exact (((Below.refl _ w).alloc (Nat.le_refl _) _).cell (p := ad.add j) (World.block_lt_of_cell? w _ h)).trans h
  case c2A => exact spCells_one l
  case c3A => unfold maxLen; omega
  case c4A => omega
  case c5A => simp
  intro v1 w2 own1 hg1 hat1
  clear q
  go_wp2
  go_ret
  refine ⟨v1, rfl, by simpa using own1, ((Below.refl _ w).alloc (Nat.le_refl _) _).grown hg1 (by simp) (by intro k hk; simp [Value.ownBlock] at hk; omega)⟩
theorem clone_sps (l : List S3) (v : Value) (w : World) (h : Sps w v l) (hx : l.length ≤ 1000) :
    Calls Tryd.prog 41 #[v] w fun e w' => ∃ v', e = .returned v' ∧ w'.ownsRow w.heap.size 59 3 v' l.length (spCells l) ∧ Below w.heap.size w w' := by
  rcases h with ⟨rfl, ao, cap, rfl⟩ | ⟨b, off, cap, rfl, hcap, hlt, hc⟩
  · cases ao with
    | none =>
      refine (clone_sp_nil cap w).mono ?_
      rintro e w' ⟨rfl, rfl⟩
      exact ⟨_, rfl, World.ownsRow_nil _ _ _ _, Below.refl _ _⟩
    | some ad => exact clone_sp_some ad cap [] w (Nat.zero_le _) (fun j u hj => by simp [spCells] at hj)
  · exact clone_sp_some ⟨b, off, none⟩ cap l w hx (trio_at l off hc)
end Go.Proofs.YtajfgmlockjmhafDoor
namespace Go.Proofs.YtajfgmlockjmhafDoor
open Go.RowKit
/-- Numbers that can be read. -/
def Rd (w : World) (v : Value) (xs : List Int) : Prop := (xs = [] ∧ ∃ ao cap, v = .slice ao 0 cap) ∨ ∃ g off cap, v = .slice (some ⟨g, off, none⟩) xs.length cap ∧ xs.length ≤ cap ∧ cap ≤ maxLen ∧ g < w.heap.size ∧ ∀ (i : Nat) x, xs[i]? = some x → w.cell? ⟨g, off + i, none⟩ = some (.int .i64 x)
theorem Rd.form {w : World} {v : Value} {xs : List Int} (h : Rd w v xs) : ∃ ao cap, v = .slice ao xs.length cap := by
  rcases h with ⟨rfl, ao, cap, rfl⟩ | ⟨g, off, cap, rfl, _⟩
  · exact ⟨_, _, rfl⟩
  · exact ⟨_, _, rfl⟩
theorem Rd.block {w w' : World} {v : Value} {xs : List Int} (h : Rd w v xs) (hb : ∀ k, k < w.heap.size → v.ownBlock = some k → w'.heap[k]? = w.heap[k]?) (hs : w.heap.size ≤ w'.heap.size) : Rd w' v xs := by
  rcases h with h | ⟨g, off, cap, rfl, h1, h1', h2, h3⟩
  · exact Or.inl h
  · exact Or.inr ⟨g, off, cap, rfl, h1, h1', by omega, fun i x hx => (World.cell?_of_block (w := w) (a := ⟨g, off + i, none⟩) (hb g h2 rfl)).trans (h3 i x hx)⟩
theorem Rd.own {w : World} {base : Nat} {v : Value} {xs : List Int} (h : w.ownsRow base 3 1 v xs.length (ints xs)) : Rd w v xs := by
  rcases row_form h with ⟨rfl, h0⟩ | ⟨g, cap, rfl⟩
  · exact Or.inl ⟨List.eq_nil_of_length_eq_zero h0, _, _, rfl⟩
  · obtain ⟨_, h2, h3, h4, h5, _, _⟩ := own_cap h
    exact Or.inr ⟨g, 0, cap, rfl, h3, h4, h2, fun i x hx => by rw [Nat.zero_add]; exact h5 i _ (ints_at hx)⟩
theorem Rd.all {w w' : World} {v : Value} {xs : List Int} (h : Rd w v xs) (hb : Below w.heap.size w w') : Rd w' v xs := by
  rcases h with h | ⟨g, off, cap, rfl, h1, h1', h2, h3⟩
  · exact Or.inl h
  · exact Or.inr ⟨g, off, cap, rfl, h1, h1', by have := hb.size; omega, fun i x hx => (hb.cell (p := ⟨g, off + i, none⟩) h2).trans (h3 i x hx)⟩
end Go.Proofs.YtajfgmlockjmhafDoor
namespace Go.Proofs.YtajfgmlockjmhafDoor
open Go.RowKit

/-- What package kernel does, in every world of a kind: K w0 w p vc vs vw k kb F: made in the world w0, of the plan p that lay there, a kernel lies at block kb; it is k, and all that it has lies in the blocks F. -/
structure KerC (G : World → Prop) where
  K : World → World → PD → Value → Value → Value → KD → Nat → List Nat → Prop
  all : ∀ w w', G w → Below w.heap.size w w' → G w'
  since : ∀ {w0 w p vc vs vw k kb F}, K w0 w p vc vs vw k kb F → Below w0.heap.size w0 w
  ge : ∀ {w0 w p vc vs vw k kb F}, K w0 w p vc vs vw k kb F → ∀ g ∈ F, w0.heap.size ≤ g ∧ g < w.heap.size
  lower : ∀ {w1 w0 w p vc vs vw k kb F}, Below w1.heap.size w1 w0 → K w0 w p vc vs vw k kb F → K w1 w p vc vs vw k kb F
  frame : ∀ {w0 w w' p vc vs vw k kb F M}, K w0 w p vc vs vw k kb F → KTouch M w w' → (∀ m ∈ M, m ∉ F ∧ w0.heap.size ≤ m) → K w0 w' p vc vs vw k kb F
  new : ∀ (p : PD) (vc vs vw : Value) (W : World), G W → Pln W vc vs vw p → plchk p = 0 → Calls Tryd.prog 18 #[plV vc p.ticks vs vw] W fun e w' => ∃ kb F, e = .returned (.tuple #[.pointer (some ⟨kb, 0, none⟩), .nilIface]) ∧ K W w' p vc vs vw (newK p) kb F
  no : ∀ (p : PD) (vc vs vw : Value) (W : World), G W → Pln W vc vs vw p → plchk p ≠ 0 → Calls Tryd.prog 18 #[plV vc p.ticks vs vw] W fun e w' => ∃ x, e = .returned (.tuple #[.pointer x, wErr (plchk p)]) ∧ Below W.heap.size W w'
  tick : ∀ {w0 W p vc vs vw k kb F}, G w0 → K w0 W p vc vs vw k kb F → plchk p = 0 → KOk p k → k.time < 100000000 → Calls Tryd.prog 20 #[.pointer (some ⟨kb, 0, none⟩)] W fun e w' => e = .returned (evA (tickK p p.spans k).2) ∧ ∃ F', K w0 w' p vc vs vw (tickK p p.spans k).1 kb F' ∧ KTouch F W w' ∧ ∀ g ∈ F', g ∈ F ∨ W.heap.size ≤ g
  state : ∀ {w0 W p vc vs vw k kb F} (r : Int), K w0 W p vc vs vw k kb F → KOk p k → plchk p = 0 → Calls Tryd.prog 47 #[.pointer (some ⟨kb, 0, none⟩), .int .i64 r] W fun e w' => e = .returned (.tuple #[stA (roomK k r), wErr (errB (noRoom k r))]) ∧ Below W.heap.size W w'
end Go.Proofs.YtajfgmlockjmhafDoor
namespace Go.Proofs.YtajfgmlockjmhafDoor
open Go.RowKit

/-- The law's own plan: a room that fails. -/
def failP : PD := ⟨[[(11, 0, 0)]], 1, [(0, 1, 0)], []⟩
theorem fail_carE : carE failP [1] 1 = 0 := by decide +kernel
def failD : Nat → CD
  | 0 => newC failP
  | j + 1 => tickC failP [1] 1 (failD j)
theorem fail_0 : (evC failP [1] 1 (failD 0)).2.2.2 = 4 := by decide +kernel
theorem fail_1 : (evC failP [1] 1 (failD 1)).2.2.2 = 4 := by decide +kernel
theorem fail_2 : (evC failP [1] 1 (failD 2)).2.2.2 = 5 := by decide +kernel
theorem fail_t : timesC (failD 3) 0 = 1 ∧ noRoom (failD 3).k 0 = false := by decide +kernel
theorem failD_ok : ∀ j, COk failP [1] 1 (failD j)
  | 0 => newC_ok fail_carE
  | j + 1 => tickC_ok (carE_zero fail_carE).1 (failD_ok j)
theorem fail_time : ∀ j, (failD j).k.time = j
  | 0 => rfl
  | j + 1 => by
    show (tickK failP failP.spans (helpC failP [1] 1 (failD j)).k).1.time = _
    rw [tick_time, help_time, fail_time j]
    omega
/-- It lies in the world. -/
theorem failP_pln (W : World) (n : Nat) (hn : n = W.heap.size) : Pln (((W.alloc (.cells #[.int .i64 11, .int .i64 0, .int .i64 0] 57)).alloc (.cells #[.slice (some ⟨n, 0, none⟩) 1 1] 36)).alloc (.cells #[.int .i64 0, .int .i64 1, .int .i64 0] 59)) (.slice (some ⟨n + 1, 0, none⟩) 1 1) (.slice (some ⟨n + 2, 0, none⟩) 1 1) (.slice none 0 0) failP := by
  subst hn
  refine ⟨Or.inr ⟨_, 0, 1, rfl, Nat.le_refl _, by simp, fun i c hi => ?_⟩, Or.inr ⟨_, 0, 1, rfl, Nat.le_refl _, by simp, fun i s hi => ?_⟩, Or.inl ⟨rfl, _, _, rfl⟩⟩
  · match i, hi with
    | 0, hi =>
      simp [failP] at hi
      subst hi
      refine ⟨.slice (some ⟨W.heap.size, 0, none⟩) 1 1, by simp [go_sem], Or.inr ⟨W.heap.size, 0, 1, rfl, by simp; omega, fun j o ho => ?_⟩⟩
      match j, ho with
      | 0, ho => simp at ho; subst ho; simp [go_sem]
      | j + 1, ho => simp at ho
    | i + 1, hi => simp [failP] at hi
  · match i, hi with
    | 0, hi => simp [failP] at hi; subst hi; simp [go_sem]
    | i + 1, hi => simp [failP] at hi
/-- A kernel with rules, one without, and one with rules of the plan without those that cannot tell. -/
structure C3 {G : World → Prop} (CC : CarC G) (CK : KerC G) (w1 wr : World) (p q : PD) (vc vs vw : Value) (what : List Int) (most : Int) (d : CD) (k : KD) (e : CD) (cb kb eb : Nat) (F H J : List Nat) : Prop where
  c : CC.K w1 wr p what most d cb F
  k : CK.K w1 wr p vc vs vw k kb H
  e : CC.K w1 wr q what most e eb J
  a1 : ∀ g ∈ F, g ∉ H
  a2 : ∀ g ∈ F, g ∉ J
  a3 : ∀ g ∈ H, g ∉ J
section
variable {G : World → Prop} {CC : CarC G} {CK : KerC G} {w1 wr w' : World} {p q : PD} {vc vs vw : Value} {what : List Int} {most : Int} {d : CD} {k : KD} {e : CD} {cb kb eb : Nat} {F H J : List Nat}
theorem C3.all (h : C3 CC CK w1 wr p q vc vs vw what most d k e cb kb eb F H J) (hb : Below wr.heap.size wr w') : C3 CC CK w1 w' p q vc vs vw what most d k e cb kb eb F H J :=
  ⟨CC.frame h.c (KTouch.of (M := []) hb) (by simp), CK.frame h.k (KTouch.of (M := []) hb) (by simp), CC.frame h.e (KTouch.of (M := []) hb) (by simp), h.a1, h.a2, h.a3⟩
/-- All three go on by a tick; in between the caller lays memory of its own. -/
theorem c3_tick (hG : G w1) (hcp : carE p what most = 0) (hcq : carE q what most = 0) (hd : COk p what most d) (hk : KOk p k) (he : COk q what most e) (t1 : d.k.time < 100000000) (t2 : k.time < 100000000) (t3 : e.k.time < 100000000) (h : C3 CC CK w1 wr p q vc vs vw what most d k e cb kb eb F H J) :
    Calls Tryd.prog 16 #[.pointer (some ⟨cb, 0, none⟩)] wr fun r w2 => r = .returned (evA (evC p what most d)) ∧ KTouch F wr w2 ∧ ∀ w3, Below w2.heap.size w2 w3 →
      Calls Tryd.prog 20 #[.pointer (some ⟨kb, 0, none⟩)] w3 fun r w4 => r = .returned (evA (tickK p p.spans k).2) ∧ KTouch H w3 w4 ∧ ∀ w5, Below w4.heap.size w4 w5 →
        Calls Tryd.prog 16 #[.pointer (some ⟨eb, 0, none⟩)] w5 fun r w' => (∃ a b c x, r = .returned (.agg #[.int .i64 a, .int .i64 b, .int .i64 c, .int .i64 x])) ∧ KTouch J w5 w' ∧ ∃ F' H' J', C3 CC CK w1 w' p q vc vs vw what most (tickC p what most d) (tickK p p.spans k).1 (tickC q what most e) cb kb eb F' H' J' := by
  have hp := (carE_zero hcp).1
  refine (CC.tick hG h.c hcp hd t1).mono ?_
  rintro r w2 ⟨rfl, F', hc2, tk2, hF'⟩
  have s2 := tk2.size
  have hk2 := CK.frame h.k tk2 (fun m hm => ⟨h.a1 m hm, (CC.ge h.c m hm).1⟩)
  have he2 := CC.frame h.e tk2 (fun m hm => ⟨h.a2 m hm, (CC.ge h.c m hm).1⟩)
  have b1 : ∀ g ∈ F', g ∉ H := fun g hg hm => by
    rcases hF' g hg with h1 | h1
    · exact h.a1 g h1 hm
    · have := (CK.ge h.k g hm).2
      omega
  have b2 : ∀ g ∈ F', g ∉ J := fun g hg hm => by
    rcases hF' g hg with h1 | h1
    · exact h.a2 g h1 hm
    · have := (CC.ge h.e g hm).2
      omega
  refine ⟨rfl, tk2, fun w3 hb3 => ?_⟩
  have s3 := hb3.size
  have hc3 := CC.frame hc2 (KTouch.of (M := []) hb3) (by simp)
  have hk3 := CK.frame hk2 (KTouch.of (M := []) hb3) (by simp)
  have he3 := CC.frame he2 (KTouch.of (M := []) hb3) (by simp)
  refine (CK.tick hG hk3 hp hk t2).mono ?_
  rintro r w4 ⟨rfl, H', hk4, tk4, hH'⟩
  have s4 := tk4.size
  have hc4 := CC.frame hc3 tk4 (fun m hm => ⟨fun e => b1 m e hm, (CK.ge hk3 m hm).1⟩)
  have he4 := CC.frame he3 tk4 (fun m hm => ⟨h.a3 m hm, (CK.ge hk3 m hm).1⟩)
  have b1' : ∀ g ∈ F', g ∉ H' := fun g hg hm => by
    rcases hH' g hm with h1 | h1
    · exact b1 g hg h1
    · have := (CC.ge hc3 g hg).2
      omega
  have b3 : ∀ g ∈ H', g ∉ J := fun g hg hm => by
    rcases hH' g hg with h1 | h1
    · exact h.a3 g h1 hm
    · have := (CC.ge he3 g hm).2
      omega
  refine ⟨rfl, tk4, fun w5 hb5 => ?_⟩
  have s5 := hb5.size
  have hc5 := CC.frame hc4 (KTouch.of (M := []) hb5) (by simp)
  have hk5 := CK.frame hk4 (KTouch.of (M := []) hb5) (by simp)
  have he5 := CC.frame he4 (KTouch.of (M := []) hb5) (by simp)
  refine (CC.tick hG he5 hcq he t3).mono ?_
  rintro r w' ⟨rfl, J', he6, tk6, hJ'⟩
  refine ⟨⟨_, _, _, _, rfl⟩, tk6, F', H', J', CC.frame hc5 tk6 (fun m hm => ⟨fun e => b2 m e hm, (CC.ge he5 m hm).1⟩), CK.frame hk5 tk6 (fun m hm => ⟨fun e => b3 m e hm, (CC.ge he5 m hm).1⟩), he6, b1', fun g hg hm => ?_, fun g hg hm => ?_⟩
  · rcases hJ' g hm with h1 | h1
    · exact b2 g hg h1
    · have := (CC.ge hc5 g hg).2
      omega
  · rcases hJ' g hm with h1 | h1
    · exact b3 g hg h1
    · have := (CK.ge hk5 g hg).2
      omega
end
/-- What the loop keeps, plain. -/
structure CInv (p : PD) (what : List Int) (most : Int) (r : Nat) (d : CD) (k : KD) (e : CD) (b : Bool) : Prop where
  dok : COk p what most d
  kok : KOk p k
  eok : COk (purgeP p (fun i => way p.wires i r)) what most e
  sim : SimC p.wires (fun i => way p.wires i r) d e
  time : d.k.time = k.time
  nf : b = false → NoneF d.k ∧ d.k = k
theorem purge_carE {p : PD} {what : List Int} {most : Int} (R : Nat → Bool) (h : carE p what most = 0) : carE (purgeP p R) what most = 0 := by
  obtain ⟨h1, h2, h3, h4, h5⟩ := carE_zero h
  have hr := purge_right R h1
  have hl : what.length = (purgeP p R).code.length := by
    show what.length = (purgeC R 0 p.code).length
    rw [purgeC_len]
    exact h2
  have ha : what.any ruleOut = false := by
    rw [List.any_eq_false]
    intro n hn
    have := h3 n hn
    unfold ruleOut
    simp
    omega
  unfold carE
  rw [if_pos hr, if_pos hl, if_neg (by rw [ha]; decide), if_neg (by omega)]
theorem cinv_new {p : PD} {what : List Int} {most : Int} (r : Nat) (h : carE p what most = 0) : CInv p what most r (newC p) (newK p) (newC (purgeP p (fun i => way p.wires i r))) false :=
  ⟨newC_ok h, new_ok (carE_zero h).1, newC_ok (purge_carE _ h), simC_new _ _, rfl, fun _ => ⟨none_new p, rfl⟩⟩
/-- One tick of all three. -/
theorem cinv_tick {p : PD} {what : List Int} {most : Int} {r : Nat} {d : CD} {k : KD} {e : CD} {b : Bool} (hc : carE p what most = 0) (h : CInv p what most r d k e b) :
    CInv p what most r (tickC p what most d) (tickK p p.spans k).1 (tickC (purgeP p (fun i => way p.wires i r)) what most e) (b || decide ((evC p what most d).2.2.2 = 4)) ∧ ((b || decide ((evC p what most d).2.2.2 = 4)) = false → evC p what most d = (tickK p p.spans k).2) := by
  have hp := (carE_zero hc).1
  have hrange : ∀ x ∈ p.wires, 0 ≤ x.1 ∧ x.1 < 5 ∧ 0 ≤ x.2.1 ∧ x.2.1 < 5 := fun x hx => by
    have h1 := (wschk_ok (plchk_zero hp).2.2.2.1).2 x hx
    unfold w4chk wchk at h1
    split at h1
    · rename_i h2
      omega
    · cases h1
  have key : ∀ hb : (b || decide ((evC p what most d).2.2.2 = 4)) = false, helpC p what most d = d ∧ d.k = k ∧ NoneF d.k ∧ (evC p what most d).2.2.2 ≠ 4 := fun hb => by
    rw [Bool.or_eq_false_iff] at hb
    obtain ⟨h1, h2⟩ := h.nf hb.1
    exact ⟨none_help h1, h2, h1, of_decide_eq_false hb.2⟩
  refine ⟨⟨tickC_ok hp h.dok, tick_ok hp h.kok, tickC_ok (purge_right _ hp) h.eok, simC_tick hp h.dok h.eok (way_closed p.wires r (fun x hx b hb => by have := hrange x hx; omega)) (fun x hx => (hrange x hx).1) h.sim, ?_, fun hb => ?_⟩, fun hb => ?_⟩
  · show (tickK p p.spans (helpC p what most d).k).1.time = _
    rw [tick_time, tick_time, help_time, h.time]
  · obtain ⟨h1, h2, h3, h4⟩ := key hb
    have e1 : (tickC p what most d).k = (tickK p p.spans k).1 := by
      show (tickK p p.spans (helpC p what most d).k).1 = _
      rw [h1, h2]
    refine ⟨?_, e1⟩
    rw [e1]
    rw [h2] at h3
    refine none_tick hp h.kok h3 ?_
    unfold evC at h4
    rw [h1, h2] at h4
    exact h4
  · obtain ⟨h1, h2, _, _⟩ := key hb
    unfold evC
    rw [h1, h2]
theorem cinv_room {p : PD} {what : List Int} {most : Int} {r : Nat} {d : CD} {k : KD} {e : CD} {b : Bool} (h : CInv p what most r d k e b) (hr : r < p.code.length) : noRoom d.k r = false ∧ noRoom e.k r = false ∧ roomK e.k r = roomK d.k r ∧ timesC e r = timesC d r := by
  have hR : way p.wires r r = true := way_self _ _
  have n1 : noRoom d.k r = false := by
    unfold noRoom
    rw [h.dok.k.rl, Bool.or_eq_false_iff]
    exact ⟨decide_eq_false (by omega), decide_eq_false (by omega)⟩
  have n2 : noRoom e.k r = false := by
    unfold noRoom
    rw [h.eok.k.rl, Bool.or_eq_false_iff]
    have : (purgeP p (fun i => way p.wires i r)).code.length = p.code.length := purgeC_len _ _ _
    rw [this]
    exact ⟨decide_eq_false (by omega), decide_eq_false (by omega)⟩
  refine ⟨n1, n2, ?_, ?_⟩
  · unfold roomK
    rw [n1, n2, if_neg (by decide), if_neg (by decide), Int.toNat_natCast, List.getD, List.getD, h.sim.k.rooms r hR]
  · unfold timesC
    rw [n1, n2, if_neg (by decide), if_neg (by decide), Int.toNat_natCast, List.getD, List.getD, h.sim.ts r hR]
end Go.Proofs.YtajfgmlockjmhafDoor
namespace Go.Proofs.YtajfgmlockjmhafDoor
open Go.RowKit

set_option maxRecDepth 1000000 in
set_option maxHeartbeats 16000000 in
theorem cstays_of {G : World → Prop} (CC : CarC G) (CK : KerC G) (P : PrgPurge G) (p : PD) (vc vs vw wv : Value) (what : List Int) (most n r : Int) (w : World) (hG : G w) (hP : Pln w vc vs vw p) (hW : Stp w wv what) :
    Calls Tryd.prog 4 #[plV vc p.ticks vs vw, wv, .int .i64 most, .int .i64 n, .int .i64 r] w fun e w' => e = .returned (.bool true) ∧ Below w.heap.size w w' := by
  obtain ⟨ca, cc, rfl⟩ := hP.code.form
  obtain ⟨sa, sc, rfl⟩ := hP.spans.form
  obtain ⟨wa, wc', rfl⟩ := hP.wires.form
  obtain ⟨ta, tc, rfl⟩ := hW.form
  have hx0 := Bx.first w (.slice ca p.code.length cc) p.ticks (.slice sa p.spans.length sc) (.slice wa p.wires.length wc')
  have HP : Hid (Pln w (.slice ca p.code.length cc) (.slice sa p.spans.length sc) (.slice wa p.wires.length wc') p) := hP
  have HW : Hid (Stp w (.slice ta what.length tc) what) := hW
  have HG : Hid (∀ W, Below w.heap.size w W → G W) := fun W hb => CC.all w W hG hb
  unfold plV
  clear hP hW hG
  go_enter Tryd.func4, Tryd.ntmps4
  go_upto_region 1 with fail
  generalize hWA : w.alloc (.cells #[.slice ca p.code.length cc, .int .i64 p.ticks, .slice sa p.spans.length sc, .slice wa p.wires.length wc'] 26) = WA at hx0 ⊢
  clear hWA
  have hpl := failP_pln WA WA.heap.size rfl
  have hB0 : Below WA.heap.size WA (((WA.alloc (.cells #[.int .i64 11, .int .i64 0, .int .i64 0] 57)).alloc (.cells #[.slice (some ⟨WA.heap.size, 0, none⟩) 1 1] 36)).alloc (.cells #[.int .i64 0, .int .i64 1, .int .i64 0] 59)) := (((Below.refl _ _).alloc (Nat.le_refl _) _).alloc (by simp) _).alloc (by simp; omega) _
  have hB1 : Below WA.heap.size WA ((((WA.alloc (.cells #[.int .i64 11, .int .i64 0, .int .i64 0] 57)).alloc (.cells #[.slice (some ⟨WA.heap.size, 0, none⟩) 1 1] 36)).alloc (.cells #[.int .i64 0, .int .i64 1, .int .i64 0] 59)).alloc (.cells #[.int .i64 1] 3)) := hB0.alloc hB0.size _
  have hS1 : Stp ((((WA.alloc (.cells #[.int .i64 11, .int .i64 0, .int .i64 0] 57)).alloc (.cells #[.slice (some ⟨WA.heap.size, 0, none⟩) 1 1] 36)).alloc (.cells #[.int .i64 0, .int .i64 1, .int .i64 0] 59)).alloc (.cells #[.int .i64 1] 3)) (.slice (some ⟨WA.heap.size + 3, 0, none⟩) 1 1) [1] := by
    refine Or.inr ⟨WA.heap.size + 3, 0, 1, rfl, by simp, fun i x hi => ?_⟩
    match i, hi with
    | 0, hi =>
      simp at hi
      subst hi
      simp [go_sem]
    | i + 1, hi => simp at hi
  have q1 : Calls Tryd.prog 15 #[.agg #[.slice (some ⟨WA.heap.size + 1, 0, none⟩) 1 1, .int .i64 1, .slice (some ⟨WA.heap.size + 2, 0, none⟩) 1 1, .slice none 0 0], .slice (some ⟨WA.heap.size + 3, 0, none⟩) 1 1, .int .i64 1] ((((WA.alloc (.cells #[.int .i64 11, .int .i64 0, .int .i64 0] 57)).alloc (.cells #[.slice (some ⟨WA.heap.size, 0, none⟩) 1 1] 36)).alloc (.cells #[.int .i64 0, .int .i64 1, .int .i64 0] 59)).alloc (.cells #[.int .i64 1] 3)) fun e w' => ∃ ob F, e = .returned (.tuple #[.pointer (some ⟨ob, 0, none⟩), .nilIface]) ∧ CC.K WA w' failP [1] 1 (failD 0) ob F := by
    refine (CC.new failP _ _ _ _ [1] 1 _ (HG.out _ (hx0.step hB1).below) (hpl.all ((Below.refl _ _).alloc (Nat.le_refl _) _)) hS1 fail_carE).mono ?_
    rintro e w' ⟨ob, F, rfl, h⟩
    exact ⟨ob, F, rfl, CC.lower hB1 h⟩
  have HG0 : Hid (G WA) := HG.out WA hx0.below
  have HTk : Hid (∀ (j : Nat) (x : Int) W ob F, j ≤ 3 → (evC failP [1] 1 (failD j)).2.2.2 = x → CC.K WA W failP [1] 1 (failD j) ob F → Calls Tryd.prog 16 #[.pointer (some ⟨ob, 0, none⟩)] W fun e w' => (∃ a b c, e = .returned (.agg #[.int .i64 a, .int .i64 b, .int .i64 c, .int .i64 x])) ∧ ∃ F', CC.K WA w' failP [1] 1 (failD (j + 1)) ob F' ∧ KTouch F W w' ∧ ∀ g ∈ F', g ∈ F ∨ W.heap.size ≤ g) := fun j x W ob F hj hx hK => by
    subst hx
    refine (CC.tick HG0.out hK fail_carE (failD_ok j) (by rw [fail_time]; omega)).mono ?_
    rintro e w' ⟨rfl, F', h1, h2, h3⟩
    exact ⟨⟨_, _, _, rfl⟩, F', h1, h2, h3⟩
  clear hpl hB0 hB1 hS1
  go_upto_region 4 with (go_at_call 15; refine q1.mono ?_; rintro e w1 ⟨ob, F0, rfl, hK0⟩; clear q1)
  have q2 := HTk.out 0 4 w1 ob F0 (by omega) fail_0 hK0
  go_upto_region 5 with (go_at_call 16; refine q2.mono ?_; rintro e w2 ⟨⟨x1, x2, x3, rfl⟩, F1, hK1, _, _⟩; clear q2)
  have hA3 : Below w2.heap.size w2 (w2.alloc (.cells #[.int .i64 x1, .int .i64 x2, .int .i64 x3, .int .i64 4] 45)) := (Below.refl _ _).alloc (Nat.le_refl _) _
  have hE3 : (w2.alloc (.cells #[.int .i64 x1, .int .i64 x2, .int .i64 x3, .int .i64 4] 45)).heap[w2.heap.size]? = some (.cells #[.int .i64 x1, .int .i64 x2, .int .i64 x3, .int .i64 4] 45) := World.alloc_heap_new _ _
  have hs3 : (w2.alloc (.cells #[.int .i64 x1, .int .i64 x2, .int .i64 x3, .int .i64 4] 45)).heap.size = w2.heap.size + 1 := by simp
  generalize w2.alloc (.cells #[.int .i64 x1, .int .i64 x2, .int .i64 x3, .int .i64 4] 45) = w3 at hA3 hE3 hs3 ⊢
  have hK3 := CC.frame hK1 (KTouch.of (M := []) hA3) (by simp)
  have q3 := HTk.out 1 4 w3 ob F1 (by omega) fail_1 hK3
  go_upto_region 6 with (go_at_call 16; refine q3.mono ?_; rintro e w4 ⟨⟨y1, y2, y3, rfl⟩, F2, hK4, tk4, hF2⟩; clear q3)
  have hE4 := (tk4.block w2.heap.size (by omega) (fun hm => by have := (CC.ge hK1 _ hm).2; omega)).trans hE3
  have s4 := tk4.size
  have hA5 : Below w4.heap.size w4 (w4.alloc (.cells #[.int .i64 y1, .int .i64 y2, .int .i64 y3, .int .i64 4] 45)) := (Below.refl _ _).alloc (Nat.le_refl _) _
  have hF5 : (w4.alloc (.cells #[.int .i64 y1, .int .i64 y2, .int .i64 y3, .int .i64 4] 45)).heap[w4.heap.size]? = some (.cells #[.int .i64 y1, .int .i64 y2, .int .i64 y3, .int .i64 4] 45) := World.alloc_heap_new _ _
  have hs5 : (w4.alloc (.cells #[.int .i64 y1, .int .i64 y2, .int .i64 y3, .int .i64 4] 45)).heap.size = w4.heap.size + 1 := by simp
  generalize w4.alloc (.cells #[.int .i64 y1, .int .i64 y2, .int .i64 y3, .int .i64 4] 45) = w5 at hA5 hF5 hs5 ⊢
  have hE5 := (hA5.block w2.heap.size (by omega)).trans hE4
  have hK5 := CC.frame hK4 (KTouch.of (M := []) hA5) (by simp)
  have q4 := HTk.out 2 5 w5 ob F2 (by omega) fail_2 hK5
  go_upto_region 7 with (go_at_call 16; refine q4.mono ?_; rintro e w6 ⟨⟨z1, z2, z3, rfl⟩, F3, hK6, tk6, _⟩; clear q4)
  have s6 := tk6.size
  have hE6 := (tk6.block w2.heap.size (by omega) (fun hm => by
    rcases hF2 _ hm with h1 | h1
    · have := (CC.ge hK1 _ h1).2
      omega
    · omega)).trans hE5
  have hF6 := (tk6.block w4.heap.size (by omega) (fun hm => by have := (CC.ge hK4 _ hm).2; omega)).trans hF5
  have hA7 : Below w6.heap.size w6 (w6.alloc (.cells #[.int .i64 z1, .int .i64 z2, .int .i64 z3, .int .i64 5] 45)) := (Below.refl _ _).alloc (Nat.le_refl _) _
  have hG7 : (w6.alloc (.cells #[.int .i64 z1, .int .i64 z2, .int .i64 z3, .int .i64 5] 45)).heap[w6.heap.size]? = some (.cells #[.int .i64 z1, .int .i64 z2, .int .i64 z3, .int .i64 5] 45) := World.alloc_heap_new _ _
  have hs7 : (w6.alloc (.cells #[.int .i64 z1, .int .i64 z2, .int .i64 z3, .int .i64 5] 45)).heap.size = w6.heap.size + 1 := by simp
  generalize w6.alloc (.cells #[.int .i64 z1, .int .i64 z2, .int .i64 z3, .int .i64 5] 45) = w7 at hA7 hG7 hs7 ⊢
  have hE7 := (hA7.block w2.heap.size (by omega)).trans hE6
  have hF7 := (hA7.block w4.heap.size (by omega)).trans hF6
  have hK7 := CC.frame hK6 (KTouch.of (M := []) hA7) (by simp)
  have q5 : Calls Tryd.prog 17 #[.pointer (some ⟨ob, 0, none⟩), .int .i64 0] w7 fun e w' => e = .returned (.tuple #[.int .i64 1, .nilIface]) ∧ Below w7.heap.size w7 w' := by
    refine (CC.times 0 hK7 (failD_ok 3) fail_carE).mono ?_
    rintro e w' ⟨rfl, h⟩
    rw [fail_t.1, fail_t.2]
    exact ⟨rfl, h⟩
  have hx7 := hx0.step (CC.since hK7)
  go_upto_region 10 with (go_at_call 17; refine q5.mono ?_; rintro e w8 ⟨rfl, b8⟩; clear q5; have g1 : w8.cell? ⟨w2.heap.size, 3, none⟩ = some (.int .i64 4) := (b8.cell (p := ⟨w2.heap.size, 3, none⟩) (show w2.heap.size < w7.heap.size by omega)).trans (by simp [World.cell?, hE7]); have g2 : w8.cell? ⟨w4.heap.size, 3, none⟩ = some (.int .i64 4) := (b8.cell (p := ⟨w4.heap.size, 3, none⟩) (show w4.heap.size < w7.heap.size by omega)).trans (by simp [World.cell?, hF7]); have g3 : w8.cell? ⟨w6.heap.size, 3, none⟩ = some (.int .i64 5) := (b8.cell (p := ⟨w6.heap.size, 3, none⟩) (show w6.heap.size < w7.heap.size by omega)).trans (by simp [World.cell?, hG7]))
  have hx8 := hx7.step b8
  clear g1 g2 g3 hE7 hF7 hG7 hE6 hF6 hE5 hF5 hE4 hE3 hK7 hK6 hK5 hK4 hK3 hK1 hK0 tk6 tk4 hF2 hx7 b8 hA7 hA5 hA3 hs7 hs5 hs3 s6 s4 HTk hx0 HG0
  have k0 := hx8.c0
  have k1 := hx8.c1
  have k2 := hx8.c2
  have k3 := hx8.c3
  by_cases hc : carE p what most = 0
  case neg =>
    have HN : Hid (Calls Tryd.prog 15 #[.agg #[.slice ca p.code.length cc, .int .i64 p.ticks, .slice sa p.spans.length sc, .slice wa p.wires.length wc'], .slice ta what.length tc, .int .i64 most] w8 fun e w' => ∃ x, e = .returned (.tuple #[.pointer x, .iface 87 (.int .i64 (carE p what most))]) ∧ Below w8.heap.size w8 w') := by
      have := CC.no p _ _ _ _ what most w8 (HG.out w8 hx8.below) (HP.out.all hx8.below) (HW.out.every hx8.below) hc
      rw [wErr_not hc] at this
      exact this
    generalize carE p what most = z at HN hc
    go_wp2_with (go_at_call 15; refine HN.out.mono ?_; rintro e w9 ⟨x, rfl, b9⟩)
    go_ret
    exact ⟨rfl, (hx8.step b9).below⟩
  have hcz := carE_zero hc
  have hp := hcz.1
  have HLen : Hid (what.length = p.code.length) := hcz.2.1
  have HN : Hid (Calls Tryd.prog 15 #[.agg #[.slice ca p.code.length cc, .int .i64 p.ticks, .slice sa p.spans.length sc, .slice wa p.wires.length wc'], .slice ta what.length tc, .int .i64 most] w8 fun e w' => ∃ cb F, e = .returned (.tuple #[.pointer (some ⟨cb, 0, none⟩), .nilIface]) ∧ CC.K w8 w' p what most (newC p) cb F) := CC.new p _ _ _ _ what most w8 (HG.out w8 hx8.below) (HP.out.all hx8.below) (HW.out.every hx8.below) hc
  have HKn : Hid (∀ W, Below w.heap.size w W → Calls Tryd.prog 18 #[.agg #[.slice ca p.code.length cc, .int .i64 p.ticks, .slice sa p.spans.length sc, .slice wa p.wires.length wc']] W fun e w' => ∃ kb F, e = .returned (.tuple #[.pointer (some ⟨kb, 0, none⟩), .nilIface]) ∧ CK.K W w' p (.slice ca p.code.length cc) (.slice sa p.spans.length sc) (.slice wa p.wires.length wc') (newK p) kb F) := fun W hb => CK.new p _ _ _ W (HG.out W hb) (HP.out.all hb) hp
  have HPg : Hid (∀ W, Below w.heap.size w W → Calls Tryd.prog 19 #[.agg #[.slice ca p.code.length cc, .int .i64 p.ticks, .slice sa p.spans.length sc, .slice wa p.wires.length wc'], .int .i64 r] W fun e w' => ∃ a4 c4 a5 c5 a6 c6, e = .returned (.tuple #[.agg #[.slice a4 (prgP p r).code.length c4, .int .i64 (prgP p r).ticks, .slice a5 (prgP p r).spans.length c5, .slice a6 (prgP p r).wires.length c6], wErr (prgE p r)]) ∧ Pln w' (.slice a4 (prgP p r).code.length c4) (.slice a5 (prgP p r).spans.length c5) (.slice a6 (prgP p r).wires.length c6) (prgP p r) ∧ Below W.heap.size W w') := fun W hb => by
    refine (P p _ _ _ r W (HG.out W hb) (HP.out.all hb)).mono ?_
    rintro e w' ⟨jc, js, jw, rfl, h1, h2⟩
    obtain ⟨a4, c4, rfl⟩ := h1.code.form
    obtain ⟨a5, c5, rfl⟩ := h1.spans.form
    obtain ⟨a6, c6, rfl⟩ := h1.wires.form
    exact ⟨a4, c4, a5, c5, a6, c6, rfl, h1, h2⟩
  clear hcz
  by_cases hz : prgE p r = 0
  case neg =>
    have hout : r < 0 ∨ (p.code.length : Int) ≤ r := by
      unfold prgE at hz
      rw [if_pos hp] at hz
      split at hz
      · rename_i h
        exact h
      · exact absurd rfl hz
    have hcase : decide (r < 0) = true ∨ (decide (r < 0) = false ∧ decide ((p.code.length : Int) ≤ r) = true) := by
      by_cases h : r < 0
      · exact Or.inl (decide_eq_true h)
      · exact Or.inr ⟨decide_eq_false h, decide_eq_true (hout.resolve_left h)⟩
    have HPg2 : Hid (∀ W, Below w.heap.size w W → Calls Tryd.prog 19 #[.agg #[.slice ca p.code.length cc, .int .i64 p.ticks, .slice sa p.spans.length sc, .slice wa p.wires.length wc'], .int .i64 r] W fun e w' => ∃ a4 l4 c4 n5 a5 l5 c5 a6 l6 c6, e = .returned (.tuple #[.agg #[.slice a4 l4 c4, .int .i64 n5, .slice a5 l5 c5, .slice a6 l6 c6], .iface 87 (.int .i64 (prgE p r))]) ∧ Below W.heap.size W w') := fun W hb => by
      refine (HPg.out W hb).mono ?_
      rintro e w' ⟨a4, c4, a5, c5, a6, c6, rfl, _, h2⟩
      rw [wErr_not hz]
      exact ⟨_, _, _, _, _, _, _, _, _, _, rfl, h2⟩
    generalize prgE p r = z at HPg2 hz
    clear HPg hout
    rcases hcase with h1 | ⟨h1, h2⟩
    all_goals
      go_wp2_with (first
        | (go_at_call 15; refine HN.out.mono ?_; rintro e w9 ⟨cb, F, rfl, hK9⟩; clear k0 k1 k2 k3; have hx9 := hx8.step (CC.since hK9); have k0 := hx9.c0; have k1 := hx9.c1; have k2 := hx9.c2; have k3 := hx9.c3; have q9 := HKn.out w9 hx9.below)
        | (go_at_call 18; refine q9.mono ?_; rintro e w10 ⟨kb, H, rfl, hk10⟩; clear q9 k0 k1 k2 k3; have hx10 := hx9.step (CK.since hk10); have k0 := hx10.c0; have k1 := hx10.c1; have k2 := hx10.c2; have k3 := hx10.c3; have q10 := HPg2.out w10 hx10.below)
        | (go_at_call 19; refine q10.mono ?_; rintro e w11 ⟨a4, l4, c4, n5, a5, l5, c5, a6, l6, c6, rfl, b11⟩; clear q10 k0 k1 k2 k3; have hx11 := (hx10.step b11).step ((Below.refl _ w11).alloc (Nat.le_refl _) (.cells #[.slice a4 l4 c4, .int .i64 n5, .slice a5 l5 c5, .slice a6 l6 c6] 26)); have k0 := hx11.c0))
      go_ret
      exact ⟨rfl, hx11.below⟩
  obtain ⟨_, hr0, hr1⟩ := prgE_zero hz
  have HQ : Hid (prgP p r = purgeP p (fun i => way p.wires i r.toNat)) := by
    show _ = _
    unfold prgP
    rw [if_pos hz]
  have hcq : carE (prgP p r) what most = 0 := by
    rw [HQ.out]
    exact purge_carE _ hc
  rw [hz, show wErr 0 = Value.nilIface from rfl] at HPg
  clear hz
  obtain ⟨rn, rfl⟩ : ∃ k : Nat, r = k := ⟨r.toNat, by omega⟩
  rw [Int.toNat_natCast] at HQ
  have hrn : rn < p.code.length := by omega
  have q8 := HN.out
  go_upto_region 17 with (first
    | (go_at_call 15; refine q8.mono ?_; rintro e w9 ⟨cb, F, rfl, hK9⟩; clear q8 k0 k1 k2 k3; have hx9 := hx8.step (CC.since hK9); have k0 := hx9.c0; have k1 := hx9.c1; have k2 := hx9.c2; have k3 := hx9.c3; have q9 := HKn.out w9 hx9.below)
    | (go_at_call 18; refine q9.mono ?_; rintro e w10 ⟨kb, H, rfl, hk10⟩; clear q9 k0 k1 k2 k3; have hx10 := hx9.step (CK.since hk10); have k0 := hx10.c0; have k1 := hx10.c1; have k2 := hx10.c2; have k3 := hx10.c3; have q10 := HPg.out w10 hx10.below)
    | (go_at_call 19; refine q10.mono ?_; rintro e w11 ⟨a4, c4, a5, c5, a6, c6, rfl, hpl11, b11⟩; clear q10))
  have hB12 : Below w11.heap.size w11 (w11.alloc (.cells #[.slice a4 (prgP p rn).code.length c4, .int .i64 (prgP p rn).ticks, .slice a5 (prgP p rn).spans.length c5, .slice a6 (prgP p rn).wires.length c6] 26)) := (Below.refl _ _).alloc (Nat.le_refl _) _
  have m0 : (w11.alloc (.cells #[.slice a4 (prgP p rn).code.length c4, .int .i64 (prgP p rn).ticks, .slice a5 (prgP p rn).spans.length c5, .slice a6 (prgP p rn).wires.length c6] 26)).cell? ⟨w11.heap.size, 0, none⟩ = some (.slice a4 (prgP p rn).code.length c4) := by simp
  have m1 : (w11.alloc (.cells #[.slice a4 (prgP p rn).code.length c4, .int .i64 (prgP p rn).ticks, .slice a5 (prgP p rn).spans.length c5, .slice a6 (prgP p rn).wires.length c6] 26)).cell? ⟨w11.heap.size, 1, none⟩ = some (.int .i64 (prgP p rn).ticks) := by simp
  have m2 : (w11.alloc (.cells #[.slice a4 (prgP p rn).code.length c4, .int .i64 (prgP p rn).ticks, .slice a5 (prgP p rn).spans.length c5, .slice a6 (prgP p rn).wires.length c6] 26)).cell? ⟨w11.heap.size, 2, none⟩ = some (.slice a5 (prgP p rn).spans.length c5) := by simp
  have m3 : (w11.alloc (.cells #[.slice a4 (prgP p rn).code.length c4, .int .i64 (prgP p rn).ticks, .slice a5 (prgP p rn).spans.length c5, .slice a6 (prgP p rn).wires.length c6] 26)).cell? ⟨w11.heap.size, 3, none⟩ = some (.slice a6 (prgP p rn).wires.length c6) := by simp
  have hx12 := (hx10.step b11).step hB12
  have hpl12 := hpl11.all hB12
  have b12 : Below w10.heap.size w10 (w11.alloc (.cells #[.slice a4 (prgP p rn).code.length c4, .int .i64 (prgP p rn).ticks, .slice a5 (prgP p rn).spans.length c5, .slice a6 (prgP p rn).wires.length c6] 26)) := b11.trans (hB12.mono b11.size)
  generalize w11.heap.size = qb at m0 m1 m2 m3 ⊢
  generalize w11.alloc (.cells #[.slice a4 (prgP p rn).code.length c4, .int .i64 (prgP p rn).ticks, .slice a5 (prgP p rn).spans.length c5, .slice a6 (prgP p rn).wires.length c6] 26) = w12 at hB12 m0 m1 m2 m3 hx12 hpl12 b12 ⊢
  have q12 : Calls Tryd.prog 15 #[.agg #[.slice a4 (prgP p rn).code.length c4, .int .i64 (prgP p rn).ticks, .slice a5 (prgP p rn).spans.length c5, .slice a6 (prgP p rn).wires.length c6], .slice ta what.length tc, .int .i64 most] w12 fun e w' => ∃ eb J, e = .returned (.tuple #[.pointer (some ⟨eb, 0, none⟩), .nilIface]) ∧ CC.K w12 w' (purgeP p (fun i => way p.wires i rn)) what most (newC (purgeP p (fun i => way p.wires i rn))) eb J := by
    have := CC.new (prgP p rn) _ _ _ _ what most w12 (HG.out w12 hx12.below) hpl12 (HW.out.every hx12.below) hcq
    rw [HQ.out] at this ⊢
    exact this
  have hcq2 : carE (purgeP p (fun i => way p.wires i rn)) what most = 0 := by
    have := hcq
    rw [HQ.out] at this
    exact this
  have hlb : ((what.length : Int) != (p.code.length : Int)) = false := by rw [HLen.out]; simp
  have hlb2 : (what.length != p.code.length) = false := by rw [HLen.out]; simp
  clear k0 k1 k2 k3
  go_upto_region 20 with (go_at_call 15; refine q12.mono ?_; rintro e w13 ⟨eb, J, rfl, he13⟩; clear q12; have hx13 := hx12.step (CC.since he13); have k0 := hx13.c0)
  have s9 := (CC.since hK9).size
  have s10 := (CK.since hk10).size
  have s12 := b12.size
  have hC3 : C3 CC CK w8 w13 p (purgeP p (fun i => way p.wires i rn)) (.slice ca p.code.length cc) (.slice sa p.spans.length sc) (.slice wa p.wires.length wc') what most (newC p) (newK p) (newC (purgeP p (fun i => way p.wires i rn))) cb kb eb F H J := by
    have e9 := CC.since hK9
    have e10 := CK.since hk10
    refine ⟨CC.frame (CC.frame (CC.frame hK9 (KTouch.of (M := []) e10) (by simp)) (KTouch.of (M := []) b12) (by simp)) (KTouch.of (M := []) (CC.since he13)) (by simp), CK.lower e9 (CK.frame (CK.frame hk10 (KTouch.of (M := []) b12) (by simp)) (KTouch.of (M := []) (CC.since he13)) (by simp)), CC.lower (e9.trans ((e10.trans (b12.mono s10)).mono s9)) he13, fun g hg hm => ?_, fun g hg hm => ?_, fun g hg hm => ?_⟩
    · have := (CC.ge hK9 g hg).2
      have := (CK.ge hk10 g hm).1
      omega
    · have := (CC.ge hK9 g hg).2
      have := (CC.ge he13 g hm).1
      omega
    · have := (CK.ge hk10 g hg).2
      have := (CC.ge he13 g hm).1
      omega
  have hs8 := hx8.size
  have HG8 : Hid (G w8) := HG.out w8 hx8.below
  have KT0' : (newK p).time ≤ ((0 : Nat) : Int) := Int.le_refl _
  have HI0 : Hid (CInv p what most rn (newC p) (newK p) (newC (purgeP p (fun i => way p.wires i rn))) false) := cinv_new rn hc
  clear hK9 hk10 he13 hx9 hx10 hx12 hpl11 hpl12 b11 b12 hB12 m0 m1 m2 m3 k0 s9 s10 s12 hlb hlb2 HKn HPg HN hx8 hcq
  generalize newC p = d0 at *
  generalize newK p = kk0 at *
  generalize newC (purgeP p (fun i => way p.wires i rn)) = ee0 at *
  go_wp2_with fail
  go_loopw [25, 26] (fun s25 s26 wr => ∃ (i : Nat) (d : CD) (k : KD) (e : CD) (b : Bool) (F H J : List Nat), i ≤ 120 ∧ s26 = .int .i64 i ∧ s25 = .bool b ∧ CInv p what most rn d k e b ∧ k.time ≤ (i : Int) ∧ C3 CC CK w8 wr p (purgeP p (fun i => way p.wires i rn)) (.slice ca p.code.length cc) (.slice sa p.spans.length sc) (.slice wa p.wires.length wc') what most d k e cb kb eb F H J ∧ Bx w wr (.slice ca p.code.length cc) p.ticks (.slice sa p.spans.length sc) (.slice wa p.wires.length wc')) (fun _ s _ => 120 - (intOf s).toNat)
  case atStart => exact ⟨0, d0, kk0, ee0, false, F, H, J, Nat.zero_le _, rfl, rfl, HI0.out, KT0', hC3, hx13⟩
  case round =>
  clear hC3 hx13
  obtain ⟨i, d, k, e, b, F1, H1, J1, hi, rfl, rfl, hI, hkt, hC3, hx⟩ := hrel
  by_cases hin : (i : Int) < n
  case neg =>
    have hin' : decide ((i : Int) < n) = false := decide_eq_false hin
    go_wp2
    go_ret
    exact ⟨rfl, hx.below⟩
  by_cases hi12 : i < 120
  case neg =>
    obtain rfl : i = 120 := by omega
    rw [show ((120 : Nat) : Int) = 120 from rfl] at hin
    go_wp2
    go_ret
    exact ⟨rfl, hx.below⟩
  have hi1 : (i : Int) < 120 := by omega
  obtain ⟨hIt, hIe⟩ := cinv_tick hc hI
  obtain ⟨⟨x1, x2, x3, x4⟩, hxe⟩ : ∃ z, evC p what most d = z := ⟨_, rfl⟩
  obtain ⟨⟨y1, y2, y3, y4⟩, hye⟩ : ∃ z, (tickK p p.spans k).2 = z := ⟨_, rfl⟩
  have HT : Hid (Calls Tryd.prog 16 #[.pointer (some ⟨cb, 0, none⟩)] wr fun r w2 => r = .returned (.agg #[.int .i64 x1, .int .i64 x2, .int .i64 x3, .int .i64 x4]) ∧ KTouch F1 wr w2 ∧ ∀ w3, Below w2.heap.size w2 w3 → Calls Tryd.prog 20 #[.pointer (some ⟨kb, 0, none⟩)] w3 fun r w4 => r = .returned (.agg #[.int .i64 y1, .int .i64 y2, .int .i64 y3, .int .i64 y4]) ∧ KTouch H1 w3 w4 ∧ ∀ w5, Below w4.heap.size w4 w5 → Calls Tryd.prog 16 #[.pointer (some ⟨eb, 0, none⟩)] w5 fun r w' => (∃ a b c x, r = .returned (.agg #[.int .i64 a, .int .i64 b, .int .i64 c, .int .i64 x])) ∧ KTouch J1 w5 w' ∧ ∃ F' H' J', C3 CC CK w8 w' p (purgeP p (fun i => way p.wires i rn)) (.slice ca p.code.length cc) (.slice sa p.spans.length sc) (.slice wa p.wires.length wc') what most (tickC p what most d) (tickK p p.spans k).1 (tickC (purgeP p (fun i => way p.wires i rn)) what most e) cb kb eb F' H' J') := by
    have h1 := hI.time
    have h2 := hI.sim.k.time
    have := c3_tick HG8.out hc hcq2 hI.dok hI.kok hI.eok (by omega) (by omega) (by omega) hC3
    rw [hxe, hye] at this
    exact this
  rw [hxe, hye] at hIe
  rw [hxe] at hIt
  have HIt : Hid (CInv p what most rn (tickC p what most d) (tickK p p.spans k).1 (tickC (purgeP p (fun i => way p.wires i rn)) what most e) (b || decide (x4 = 4))) := hIt
  have HIe : Hid ((b || decide (x4 = 4)) = false → (x1, x2, x3, x4) = (y1, y2, y3, y4)) := hIe
  have HKt : Hid ((tickK p p.spans k).1.time ≤ (i : Int) + 1) := by
    show _ ≤ _
    rw [tick_time]
    omega
  have gF := fun g hg => CC.ge hC3.c g hg
  have gH := fun g hg => CK.ge hC3.k g hg
  have gJ := fun g hg => CC.ge hC3.e g hg
  clear hIt hIe hxe hye hI hkt hC3
  have hsx := hx.size
  go_upto_region 25 with (go_at_call 16; refine HT.out.mono ?_; rintro rr w2 ⟨rfl, tk2, hn2⟩)
  clear HT
  have s2 := tk2.size
  have hA3 : Below w2.heap.size w2 (w2.alloc (.cells #[.int .i64 x1, .int .i64 x2, .int .i64 x3, .int .i64 x4] 45)) := (Below.refl _ _).alloc (Nat.le_refl _) _
  have hX3 : (w2.alloc (.cells #[.int .i64 x1, .int .i64 x2, .int .i64 x3, .int .i64 x4] 45)).heap[w2.heap.size]? = some (.cells #[.int .i64 x1, .int .i64 x2, .int .i64 x3, .int .i64 x4] 45) := World.alloc_heap_new _ _
  have s3 : (w2.alloc (.cells #[.int .i64 x1, .int .i64 x2, .int .i64 x3, .int .i64 x4] 45)).heap.size = w2.heap.size + 1 := by simp
  generalize w2.alloc (.cells #[.int .i64 x1, .int .i64 x2, .int .i64 x3, .int .i64 x4] 45) = w3 at hA3 hX3 s3 ⊢
  have HN3 := hn2 w3 hA3
  clear hn2
  go_upto_region 26 with (go_at_call 20; refine HN3.mono ?_; rintro rr w4 ⟨rfl, tk4, hn4⟩; clear HN3)
  have s4 := tk4.size
  have hX4 := (tk4.block w2.heap.size (by omega) (fun hm => by have := (gH _ hm).2; omega)).trans hX3
  have hA5 : Below w4.heap.size w4 (w4.alloc (.cells #[.int .i64 y1, .int .i64 y2, .int .i64 y3, .int .i64 y4] 45)) := (Below.refl _ _).alloc (Nat.le_refl _) _
  have hY5 : (w4.alloc (.cells #[.int .i64 y1, .int .i64 y2, .int .i64 y3, .int .i64 y4] 45)).heap[w4.heap.size]? = some (.cells #[.int .i64 y1, .int .i64 y2, .int .i64 y3, .int .i64 y4] 45) := World.alloc_heap_new _ _
  have s5 : (w4.alloc (.cells #[.int .i64 y1, .int .i64 y2, .int .i64 y3, .int .i64 y4] 45)).heap.size = w4.heap.size + 1 := by simp
  generalize w4.alloc (.cells #[.int .i64 y1, .int .i64 y2, .int .i64 y3, .int .i64 y4] 45) = w5 at hA5 hY5 s5 ⊢
  have hX5 := (hA5.block w2.heap.size (by omega)).trans hX4
  have HN5 := hn4 w5 hA5
  clear hn4
  go_upto_region 27 with (go_at_call 16; refine HN5.mono ?_; rintro rr w6 ⟨⟨za, zb, zc, zd, rfl⟩, tk6, F2, H2, J2, hC6⟩; clear HN5)
  have s6 := tk6.size
  have hX6 := (tk6.block w2.heap.size (by omega) (fun hm => by have := (gJ _ hm).2; omega)).trans hX5
  have hY6 := (tk6.block w4.heap.size (by omega) (fun hm => by have := (gJ _ hm).2; omega)).trans hY5
  have hx6 : Bx w w6 (.slice ca p.code.length cc) p.ticks (.slice sa p.spans.length sc) (.slice wa p.wires.length wc') := Below.trans (Below.trans (Below.trans (Below.trans (Below.trans hx (tk2.below (fun m hm => by have := (gF m hm).1; omega) hx.size)) (hA3.mono (by omega))) (tk4.below (fun m hm => by have := (gH m hm).1; omega) (by omega))) (hA5.mono (by omega))) (tk6.below (fun m hm => by have := (gJ m hm).1; omega) (by omega))
  clear hX5 hX4 hX3 hY5 hA3 hA5 tk2 tk4 tk6 gF gH gJ hx
  have ex3 : w6.cell? ⟨w2.heap.size, 3, none⟩ = some (.int .i64 x4) := by simp [World.cell?, hX6]
  obtain ⟨b', hb'⟩ : ∃ z, (b || decide (x4 = 4)) = z := ⟨_, rfl⟩
  rw [hb'] at HIt HIe
  go_cut [25] from 141 to 250 (fun s25 wx => s25 = .bool b' ∧ wx = w6)
  case first =>
    cases b with
    | true =>
      have HX : Hid (b' = true) := by show _ = _; rw [← hb']; rfl
      clear hb'
      go_wp2_with fail
      go_meet
      case rel => exact ⟨by rw [HX.out], rfl⟩
    | false =>
      have hq : (x4 == 4) = b' := by rw [← hb']; by_cases h : x4 = 4 <;> simp [h]
      clear hb'
      go_wp2_with fail
      go_meet
      case rel => exact ⟨rfl, rfl⟩
  case rest =>
  obtain ⟨rfl, hwx⟩ := hcut
  rw [hwx]
  clear hwx hb' ex3
  go_upto_region 28 with fail
  go_cut [168] from 141 to 250 (fun s168 wx => s168 = .bool false ∧ wx = w6)
  case first =>
    by_cases hbb : b' = true
    · have hq : (!b') = false := by rw [hbb]; rfl
      clear hbb
      go_wp2_with fail
      go_meet
      case rel => exact ⟨rfl, rfl⟩
    · have hb0 : b' = false := by simpa using hbb
      have he := HIe.out hb0
      have hq : (!b') = true := by rw [hb0]; rfl
      clear hbb hb0
      simp only [Prod.mk.injEq] at he
      obtain ⟨rfl, rfl, rfl, rfl⟩ := he
      have ex0 : w6.cell? ⟨w2.heap.size, 0, none⟩ = some (.int .i64 x1) := by simp [World.cell?, hX6]
      have ex1 : w6.cell? ⟨w2.heap.size, 1, none⟩ = some (.int .i64 x2) := by simp [World.cell?, hX6]
      have ex2 : w6.cell? ⟨w2.heap.size, 2, none⟩ = some (.int .i64 x3) := by simp [World.cell?, hX6]
      have ex3 : w6.cell? ⟨w2.heap.size, 3, none⟩ = some (.int .i64 x4) := by simp [World.cell?, hX6]
      have ey0 : w6.cell? ⟨w4.heap.size, 0, none⟩ = some (.int .i64 x1) := by simp [World.cell?, hY6]
      have ey1 : w6.cell? ⟨w4.heap.size, 1, none⟩ = some (.int .i64 x2) := by simp [World.cell?, hY6]
      have ey2 : w6.cell? ⟨w4.heap.size, 2, none⟩ = some (.int .i64 x3) := by simp [World.cell?, hY6]
      have ey3 : w6.cell? ⟨w4.heap.size, 3, none⟩ = some (.int .i64 x4) := by simp [World.cell?, hY6]
      have hev := neq_ev x1 x2 x3 x4
      have hge := guardEv
      go_wp2_with fail
      go_meet
      case rel => exact ⟨rfl, rfl⟩
  case rest =>
  obtain ⟨rfl, hwx⟩ := hcut
  rw [hwx]
  clear hwx hX6 hY6 HIe
  go_step
  obtain ⟨d', hd'⟩ : ∃ z, tickC p what most d = z := ⟨_, rfl⟩
  obtain ⟨k', hk'⟩ : ∃ z, (tickK p p.spans k).1 = z := ⟨_, rfl⟩
  obtain ⟨e', he'⟩ : ∃ z, tickC (purgeP p (fun i => way p.wires i rn)) what most e = z := ⟨_, rfl⟩
  rw [hd', hk', he'] at HIt hC6
  rw [hk'] at HKt
  clear hd' hk' he'
  obtain ⟨r1, r2, r3, r4⟩ := cinv_room HIt.out hrn
  obtain ⟨s, hs⟩ : ∃ z, roomK d'.k rn = z := ⟨_, rfl⟩
  obtain ⟨tm, htm⟩ : ∃ z, timesC d' rn = z := ⟨_, rfl⟩
  have HSc : Hid (∀ W, Below w6.heap.size w6 W → Calls Tryd.prog 21 #[.pointer (some ⟨cb, 0, none⟩), .int .i64 rn] W fun r w' => r = .returned (.tuple #[.agg #[.int .i64 s.p, .int .i64 (s.c 0), .int .i64 (s.c 1), .int .i64 (s.c 2), .int .i64 (s.c 3), .int .i64 (s.c 4), .int .i64 (s.c 5), .bool s.f], .nilIface]) ∧ Below W.heap.size W w') := fun W hb => by
    have := CC.state rn (hC6.all hb).c HIt.out.dok hc
    rw [r1, hs] at this
    exact this
  have HSe : Hid (∀ W, Below w6.heap.size w6 W → Calls Tryd.prog 21 #[.pointer (some ⟨eb, 0, none⟩), .int .i64 rn] W fun r w' => r = .returned (.tuple #[.agg #[.int .i64 s.p, .int .i64 (s.c 0), .int .i64 (s.c 1), .int .i64 (s.c 2), .int .i64 (s.c 3), .int .i64 (s.c 4), .int .i64 (s.c 5), .bool s.f], .nilIface]) ∧ Below W.heap.size W w') := fun W hb => by
    have := CC.state rn (hC6.all hb).e HIt.out.eok hcq2
    rw [r2, r3, hs] at this
    exact this
  have HTc : Hid (∀ W, Below w6.heap.size w6 W → Calls Tryd.prog 17 #[.pointer (some ⟨cb, 0, none⟩), .int .i64 rn] W fun r w' => r = .returned (.tuple #[.int .i64 tm, .nilIface]) ∧ Below W.heap.size W w') := fun W hb => by
    have := CC.times rn (hC6.all hb).c HIt.out.dok hc
    rw [r1, htm] at this
    exact this
  have HTe : Hid (∀ W, Below w6.heap.size w6 W → Calls Tryd.prog 17 #[.pointer (some ⟨eb, 0, none⟩), .int .i64 rn] W fun r w' => r = .returned (.tuple #[.int .i64 tm, .nilIface]) ∧ Below W.heap.size W w') := fun W hb => by
    have := CC.times rn (hC6.all hb).e HIt.out.eok hcq2
    rw [r2, r4, htm] at this
    exact this
  clear r1 r2 r3 r4 hs htm
  have HC6 : Hid (C3 CC CK w8 w6 p (purgeP p (fun i => way p.wires i rn)) (.slice ca p.code.length cc) (.slice sa p.spans.length sc) (.slice wa p.wires.length wc') what most d' k' e' cb kb eb F2 H2 J2) := hC6
  have HX6 : Hid (Bx w w6 (.slice ca p.code.length cc) p.ticks (.slice sa p.spans.length sc) (.slice wa p.wires.length wc')) := hx6
  clear hC6 hx6
  have q30 := HSc.out w6 (Below.refl _ _)
  go_upto_region 31 with (go_at_call 21; refine q30.mono ?_; rintro rr wa ⟨rfl, ba⟩; clear q30)
  have hSa : (wa.alloc (.cells #[.int .i64 s.p, .int .i64 (s.c 0), .int .i64 (s.c 1), .int .i64 (s.c 2), .int .i64 (s.c 3), .int .i64 (s.c 4), .int .i64 (s.c 5), .bool s.f] 39)).heap[wa.heap.size]? = some (.cells #[.int .i64 s.p, .int .i64 (s.c 0), .int .i64 (s.c 1), .int .i64 (s.c 2), .int .i64 (s.c 3), .int .i64 (s.c 4), .int .i64 (s.c 5), .bool s.f] 39) := World.alloc_heap_new _ _
  have bA : Below w6.heap.size w6 (wa.alloc (.cells #[.int .i64 s.p, .int .i64 (s.c 0), .int .i64 (s.c 1), .int .i64 (s.c 2), .int .i64 (s.c 3), .int .i64 (s.c 4), .int .i64 (s.c 5), .bool s.f] 39)) := ba.alloc ba.size _
  have sA : (wa.alloc (.cells #[.int .i64 s.p, .int .i64 (s.c 0), .int .i64 (s.c 1), .int .i64 (s.c 2), .int .i64 (s.c 3), .int .i64 (s.c 4), .int .i64 (s.c 5), .bool s.f] 39)).heap.size = wa.heap.size + 1 := by simp
  generalize wa.alloc (.cells #[.int .i64 s.p, .int .i64 (s.c 0), .int .i64 (s.c 1), .int .i64 (s.c 2), .int .i64 (s.c 3), .int .i64 (s.c 4), .int .i64 (s.c 5), .bool s.f] 39) = wA at hSa bA sA ⊢
  generalize wa.heap.size = sa1 at hSa sA ⊢
  have q31 := HSe.out wA bA
  go_upto_region 32 with (go_at_call 21; refine q31.mono ?_; rintro rr wb ⟨rfl, bb⟩; clear q31)
  have sbb := bb.size
  have hSa2 := (bb.block sa1 (by omega)).trans hSa
  have hSb : (wb.alloc (.cells #[.int .i64 s.p, .int .i64 (s.c 0), .int .i64 (s.c 1), .int .i64 (s.c 2), .int .i64 (s.c 3), .int .i64 (s.c 4), .int .i64 (s.c 5), .bool s.f] 39)).heap[wb.heap.size]? = some (.cells #[.int .i64 s.p, .int .i64 (s.c 0), .int .i64 (s.c 1), .int .i64 (s.c 2), .int .i64 (s.c 3), .int .i64 (s.c 4), .int .i64 (s.c 5), .bool s.f] 39) := World.alloc_heap_new _ _
  have bB : Below w6.heap.size w6 (wb.alloc (.cells #[.int .i64 s.p, .int .i64 (s.c 0), .int .i64 (s.c 1), .int .i64 (s.c 2), .int .i64 (s.c 3), .int .i64 (s.c 4), .int .i64 (s.c 5), .bool s.f] 39)) := (bA.trans (bb.mono bA.size)).alloc (Nat.le_trans bA.size bb.size) _
  have hSa3 := (((Below.refl _ wb).alloc (Nat.le_refl _) (.cells #[.int .i64 s.p, .int .i64 (s.c 0), .int .i64 (s.c 1), .int .i64 (s.c 2), .int .i64 (s.c 3), .int .i64 (s.c 4), .int .i64 (s.c 5), .bool s.f] 39)).block sa1 (by omega)).trans hSa2
  have sB : (wb.alloc (.cells #[.int .i64 s.p, .int .i64 (s.c 0), .int .i64 (s.c 1), .int .i64 (s.c 2), .int .i64 (s.c 3), .int .i64 (s.c 4), .int .i64 (s.c 5), .bool s.f] 39)).heap.size = wb.heap.size + 1 := by simp
  generalize wb.alloc (.cells #[.int .i64 s.p, .int .i64 (s.c 0), .int .i64 (s.c 1), .int .i64 (s.c 2), .int .i64 (s.c 3), .int .i64 (s.c 4), .int .i64 (s.c 5), .bool s.f] 39) = wB at hSb bB hSa3 sB ⊢
  generalize hsb1 : wb.heap.size = sb1 at hSb sB sbb ⊢
  have q32 := HTc.out wB bB
  go_upto_region 33 with (go_at_call 17; refine q32.mono ?_; rintro rr wC ⟨rfl, bC0⟩; clear q32)
  have bC := bB.trans (bC0.mono bB.size)
  have q33 := HTe.out wC bC
  go_upto_region 34 with (go_at_call 17; refine q33.mono ?_; rintro rr wD ⟨rfl, bD0⟩; clear q33)
  have bD := bC.trans (bD0.mono bC.size)
  have bBD := bC0.trans (bD0.mono bC0.size)
  have hSa4 := (bBD.block sa1 (by omega)).trans hSa3
  have hSb4 := (bBD.block sb1 (by omega)).trans hSb
  have ca0 : wD.cell? ⟨sa1, 0, none⟩ = some (.int .i64 s.p) := by simp [World.cell?, hSa4]
  have ca1 : wD.cell? ⟨sa1, 1, none⟩ = some (.int .i64 (s.c 0)) := by simp [World.cell?, hSa4]
  have ca2 : wD.cell? ⟨sa1, 2, none⟩ = some (.int .i64 (s.c 1)) := by simp [World.cell?, hSa4]
  have ca3 : wD.cell? ⟨sa1, 3, none⟩ = some (.int .i64 (s.c 2)) := by simp [World.cell?, hSa4]
  have ca4 : wD.cell? ⟨sa1, 4, none⟩ = some (.int .i64 (s.c 3)) := by simp [World.cell?, hSa4]
  have ca5 : wD.cell? ⟨sa1, 5, none⟩ = some (.int .i64 (s.c 4)) := by simp [World.cell?, hSa4]
  have ca6 : wD.cell? ⟨sa1, 6, none⟩ = some (.int .i64 (s.c 5)) := by simp [World.cell?, hSa4]
  have ca7 : wD.cell? ⟨sa1, 7, none⟩ = some (.bool s.f) := by simp [World.cell?, hSa4]
  have cb0 : wD.cell? ⟨sb1, 0, none⟩ = some (.int .i64 s.p) := by simp [World.cell?, hSb4]
  have cb1 : wD.cell? ⟨sb1, 1, none⟩ = some (.int .i64 (s.c 0)) := by simp [World.cell?, hSb4]
  have cb2 : wD.cell? ⟨sb1, 2, none⟩ = some (.int .i64 (s.c 1)) := by simp [World.cell?, hSb4]
  have cb3 : wD.cell? ⟨sb1, 3, none⟩ = some (.int .i64 (s.c 2)) := by simp [World.cell?, hSb4]
  have cb4 : wD.cell? ⟨sb1, 4, none⟩ = some (.int .i64 (s.c 3)) := by simp [World.cell?, hSb4]
  have cb5 : wD.cell? ⟨sb1, 5, none⟩ = some (.int .i64 (s.c 4)) := by simp [World.cell?, hSb4]
  have cb6 : wD.cell? ⟨sb1, 6, none⟩ = some (.int .i64 (s.c 5)) := by simp [World.cell?, hSb4]
  have cb7 : wD.cell? ⟨sb1, 7, none⟩ = some (.bool s.f) := by simp [World.cell?, hSb4]
  have hnq := neq_st s.p (s.c 0) (s.c 1) (s.c 2) (s.c 3) (s.c 4) (s.c 5) s.f
  have hgd := guardSt
  clear hSa hSa2 hSa3 hSa4 hSb hSb4 bC0 bD0 bBD
  go_upto_region 36 with fail
  clear hnq hgd ca0 cb0 ca1 cb1 ca2 cb2 ca3 cb3 ca4 cb4 ca5 cb5 ca6 cb6 ca7 cb7
  have HBD : Hid (Below w6.heap.size w6 wD) := bD
  go_wp2_with fail
  go_loopw [37] (fun s37 wr2 => ∃ j : Nat, j ≤ what.length ∧ s37 = .int .i64 j ∧ Below w6.heap.size w6 wr2) (fun s _ => what.length - (intOf s).toNat)
  case atStart => exact ⟨0, Nat.zero_le _, rfl, HBD.out⟩
  case round =>
  rename World => wI
  obtain ⟨j, hj, rfl, hbj⟩ := hrel
  by_cases hjl : j < what.length
  case neg =>
    have hjl' : decide ((j : Int) < (what.length : Int)) = false := decide_eq_false (by omega)
    have hjn : decide (j < what.length) = false := decide_eq_false hjl
    go_wp2
    go_roundw
    case rel => exact ⟨i + 1, d', k', e', b', F2, H2, J2, by omega, by go_num, rfl, HIt.out, by have := HKt.out; omega, HC6.out.all hbj, HX6.out.step hbj⟩
    case measure => simp [intOf]; omega
  have hji : (j : Int) < (what.length : Int) := by omega
  have hjp : j < p.code.length := by rw [← HLen.out]; exact hjl
  have hj5 : j < 5 := by have := (plchk_zero hp).1; omega
  have hjt : j < d'.ts.length := by rw [HIt.out.dok.tl]; exact hjp
  have hno : noRoom d'.k j = false := by
    unfold noRoom
    rw [HIt.out.dok.k.rl, Bool.or_eq_false_iff]
    exact ⟨decide_eq_false (by omega), decide_eq_false (by omega)⟩
  obtain ⟨t, ht⟩ : ∃ z, timesC d' j = z := ⟨_, rfl⟩
  have hte : t = d'.ts[j] := by
    rw [← ht]
    unfold timesC
    rw [hno, if_neg (by decide), Int.toNat_natCast]
    simp [List.getD, hjt]
  obtain ⟨t0, t1, t2⟩ := HIt.out.dok.ts j t (by rw [hte]; exact List.getElem?_eq_getElem hjt)
  have hbw := HX6.out.below.trans (hbj.mono HX6.out.below.size)
  obtain ⟨lb, lo, xv, rfl, hxc, hlx⟩ := HW.out.at hbw hjl
  have hwx : what.getD j 0 = xv := by simp [List.getD, hlx]
  rw [hwx] at t2
  have HTj : Hid (Calls Tryd.prog 17 #[.pointer (some ⟨cb, 0, none⟩), .int .i64 j] wI fun r w' => r = .returned (.tuple #[.int .i64 t, .nilIface]) ∧ Below wI.heap.size wI w') := by
    have := CC.times j (HC6.out.all hbj).c HIt.out.dok hc
    rw [hno, ht] at this
    exact this
  have hq1 : decide (t < 0) = false := decide_eq_false (by omega)
  have hq2 : decide (most < t) = false := decide_eq_false (by omega)
  have hlbt : lb < wI.heap.size := World.block_lt_of_cell? wI ⟨lb, lo + j, none⟩ hxc
  clear hno ht hte hlx hwx hjp hjt
  by_cases hx0 : xv = 0
  · obtain rfl : t = 0 := t2 (by omega)
    subst hx0
    clear t0 t1 t2 hq1
    have hq1 : decide ((0 : Int) < 0) = false := rfl
    go_wp2_with (go_at_call 17; refine HTj.out.mono ?_; rintro rr wJ ⟨rfl, bJ⟩; have hxc2 := (bJ.cell (p := ⟨lb, lo + j, none⟩) hlbt).trans hxc)
    go_roundw
    case rel => exact ⟨j + 1, by omega, by go_num, hbj.trans (bJ.mono hbj.size)⟩
    case measure => simp [intOf]; omega
  · have hq3 : (xv == 0) = false := by simpa using hx0
    clear t0 t1 t2 hx0
    go_wp2_with (go_at_call 17; refine HTj.out.mono ?_; rintro rr wJ ⟨rfl, bJ⟩; have hxc2 := (bJ.cell (p := ⟨lb, lo + j, none⟩) hlbt).trans hxc)
    go_roundw
    case rel => exact ⟨j + 1, by omega, by go_num, hbj.trans (bJ.mono hbj.size)⟩
    case measure => simp [intOf]; omega
end Go.Proofs.YtajfgmlockjmhafDoor
