/-
  HdRow, KTurnM, SgtMath, Trod, IntsTwo, HdL, HdR, RSees, StL, RStates, SgtCR, SgtC, SgtAr, SgtOfG, SgtRunG: joined into one text.
-/
import Derived.Test.YtfconbblnmbnpadGreatDoorJa1
import Derived.Test.YtfconbblnmbnpadGreatDoorJa3
import Derived.Deep.RegionHeld3
import Derived.Deep.CutRange
import Derived.Deep.RegionWith
import Derived.BigQuiet
import Derived.Test.YtfconbblnmbnpadGreatDoorJa5
import Derived.Deep.RegionLaw
import Derived.Test.YtfconbblnmbnpadGreatDoorJa2
import Derived.Test.YtfconbblnmbnpadGreatDoorJa8
import Derived.Test.YtfconbblnmbnpadGreatDoorJa9
namespace Go.Proofs.YtfconbblnmbnpadGreatDoor
open Go.RowKit

/-- What is held, as cells: the numbers lie where 'u' says. -/
def hdCells (l : List (Value × Int)) : List Value := l.flatMap fun x => [x.1, .int .i64 x.2]
theorem hdCells_snoc (l : List (Value × Int)) (x : Value × Int) : hdCells (l ++ [x]) = hdCells l ++ [x.1, .int .i64 x.2] := by simp [hdCells]
theorem hdCells_at : ∀ (l : List (Value × Int)) (i : Nat) (x : Value × Int), l[i]? = some x → (hdCells l)[i * 2]? = some x.1 ∧ (hdCells l)[i * 2 + 1]? = some (.int .i64 x.2)
  | [], i, x, h => by simp at h
  | y :: l, 0, x, h => by simp at h; subst h; simp [hdCells]
  | y :: l, i + 1, x, h => by
    have h1 := hdCells_at l i x (by simpa using h)
    have e : ∀ j, (hdCells (y :: l))[(i + 1) * 2 + j]? = (hdCells l)[i * 2 + j]? := fun j => by
      show ([y.1, .int .i64 y.2] ++ hdCells l)[(i + 1) * 2 + j]? = _
      rw [List.getElem?_append_right (by simp; omega)]
      congr 1
      simp
      omega
    exact ⟨(e 0).trans h1.1, (e 1).trans h1.2⟩
theorem infoHd : (Tryz.prog.info? 54).map (fun i => (i.zero, i.size, i.bytes)) = some (some (.agg #[.slice none 0 0, .int .i64 0]), 2, 32) := by kernel_rfl
theorem hd_new {w : World} {k : Nat} (hk : k = w.heap.size) (x y : Value) (t : TypeId) : ∀ j u, [x, y][j]? = some u → (w.alloc (.cells #[x, y] t)).cell? ((⟨k, 0, none⟩ : Addr).add j) = some u := by
  intro j u hj
  subst hk
  rw [Addr.add_lit, Nat.zero_add]
  match j, hj with
  | 0, hj => simp at hj; subst hj; simp
  | 1, hj => simp at hj; subst hj; simp
  | j + 2, hj => simp at hj
end Go.Proofs.YtfconbblnmbnpadGreatDoor
namespace Go.Proofs.YtfconbblnmbnpadGreatDoor

/-- A kernel behind so many ticks. -/
def kT (p : PD) : Nat → KD
  | 0 => newK p
  | t + 1 => (tickK p p.spans (kT p t)).1
theorem kT_time (p : PD) : ∀ t, (kT p t).time = t
  | 0 => rfl
  | t + 1 => by
    show (tickK p p.spans (kT p t)).1.time = _
    rw [tick_time, kT_time p t]
    omega
theorem kT_ok {p : PD} (hp : plchk p = 0) : ∀ t, KOk p (kT p t)
  | 0 => new_ok hp
  | t + 1 => tick_ok hp (kT_ok hp t)
/-- Whose turn it is. -/
def whoK (p : PD) (k : KD) : Int := hold p.spans (k.time % p.ticks)
theorem tick_told (p : PD) (k : KD) : (tickK p p.spans k).2.1 = k.time ∧ (tickK p p.spans k).2.2.1 = whoK p k := by
  unfold tickK whoK
  simp only
  split
  · exact ⟨rfl, rfl⟩
  · exact ⟨rfl, rfl⟩
/-- No room but the one whose turn it is. -/
theorem tick_room {p : PD} {k : KD} {r : Nat} (hr : (r : Int) ≠ whoK p k) : (tickK p p.spans k).1.rooms[r]? = k.rooms[r]? := by
  unfold whoK at hr
  unfold tickK
  simp only
  split
  · rfl
  · rename_i h
    show (k.rooms.set _ _)[r]? = _
    rw [List.getElem?_set_ne (by omega)]
/-- No wire but those of it. -/
theorem tick_line {p : PD} {k : KD} (hp : plchk p = 0) (hk : KOk p k) {i : Nat} {x : W4} (hx : p.wires[i]? = some x) (h1 : x.1 ≠ whoK p k) (h2 : x.2.1 ≠ whoK p k) : (tickK p p.spans k).1.lines[i]? = k.lines[i]? := by
  have hw := (who_room hp (k.time % p.ticks)).2
  unfold whoK at h1 h2
  unfold tickK
  simp only
  split
  · rfl
  · rename_i h
    obtain ⟨rn, hrn⟩ : ∃ n : Nat, hold p.spans (k.time % p.ticks) = n := ⟨(hold p.spans (k.time % p.ticks)).toNat, by omega⟩
    rw [hrn] at h1 h2 hw ⊢
    have hlt : rn < p.code.length := by simpa using hw (by omega)
    obtain ⟨c, s, o, ht⟩ := turn_of hp hk hlt
    obtain ⟨e1, e2, e3⟩ := ht.at
    rw [Int.toNat_natCast]
    unfold turnK
    simp only [e1, e2, e3]
    have hop := op_wire hp ht.hc (List.mem_of_getElem? ht.ho)
    have hT : (linesT k o s)[i]? = k.lines[i]? := by
      unfold linesT
      split
      · rename_i htk
        have h9 : o.1 = 9 := by
          unfold takesB at htk
          simp only [Bool.and_eq_true, decide_eq_true_eq] at htk
          exact htk.2
        obtain ⟨y, hy, hy2⟩ := hop.2 h9
        refine List.getElem?_set_ne (fun e => ?_)
        rw [e, hx] at hy
        obtain rfl := Option.some.inj hy
        exact h2 hy2
      · rfl
    rw [← hT]
    unfold linesS
    split
    · rename_i hs
      have h8 := ((sendK_range ht).2.2 hs).1
      obtain ⟨y, hy, hy2⟩ := hop.1 h8
      refine List.getElem?_set_ne (fun e => ?_)
      rw [e, hx] at hy
      obtain rfl := Option.some.inj hy
      exact h1 hy2
    · rfl
end Go.Proofs.YtfconbblnmbnpadGreatDoor
namespace Go.Proofs.YtfconbblnmbnpadGreatDoor

/-- A wire that leads to a room, or comes from it. -/
def atR (r : Int) (l : LnD) : Bool := decide (l.w.1 = r) || decide (l.w.2.1 = r)
/-- What a room sees of a kernel's lines. -/
def seesK (k : KD) (r : Int) : List (List Int × Int) := (k.lines.filter (atR r)).map fun l => (l.xs, l.ls)
/-- A room's states ahead of each of n ticks, and behind the last one. -/
def statesK (p : PD) (n r : Nat) : List St := (List.range (n + 1)).map fun t => (kT p t).rooms.getD r stNew
theorem statesK_len (p : PD) (n r : Nat) : (statesK p n r).length = n + 1 := by simp [statesK]
theorem statesK_zero (p : PD) (r : Nat) : statesK p 0 r = [(newK p).rooms.getD r stNew] := by simp [statesK, kT]
theorem statesK_succ (p : PD) (n r : Nat) : statesK p (n + 1) r = statesK p n r ++ [(kT p (n + 1)).rooms.getD r stNew] := by
  unfold statesK
  rw [List.range_succ, List.map_append]
  rfl
theorem statesK_first (p : PD) (n r : Nat) : (statesK p n r)[0]? = some stNew := by
  have h : (newK p).rooms.getD r stNew = stNew := by
    unfold newK
    simp only [List.getD, List.getElem?_map]
    cases p.code[r]? <;> rfl
  rw [← h]
  simp [statesK, kT]
/-- What is wrong with a run. -/
def runE (p : PD) (n r : Int) : Int := if plchk p = 0 then (if r < 0 ∨ (p.code.length : Int) ≤ r ∨ n < 0 ∨ 2000 < n then 1 else 0) else plchk p
/-- Two states that look the same. -/
structure StSame (s t : St) : Prop where
  p : s.p = t.p
  c : ∀ i, i < 6 → s.c i = t.c i
  f : s.f = t.f
theorem StSame.refl (s : St) : StSame s s := ⟨rfl, fun _ _ => rfl, rfl⟩
theorem cells_same {o : O3} {c d : Nat → Int} {g : Int} {b : Bool} (h : ∀ i, i < 6 → c i = d i) (hA : o.2.1.toNat < 6) (hB : o.1 = 2 ∨ o.1 = 3 ∨ o.1 = 4 ∨ o.1 = 5 → o.2.2.toNat < 6) : ∀ i, i < 6 → cellsF o c g b i = cellsF o d g b i := fun i hi => by
  have hu : ∀ v, upd c o.2.1.toNat v i = upd d o.2.1.toNat v i := fun v => by
    unfold upd
    split
    · rfl
    · exact h i hi
  unfold cellsF
  split
  · exact hu _
  split
  · rename_i h2; rw [h _ (hB (by omega))]; exact hu _
  split
  · rename_i h3; rw [h _ hA, h _ (hB (by omega))]; exact hu _
  split
  · rename_i h4; rw [h _ hA, h _ (hB (by omega))]; exact hu _
  split
  · rename_i h5; rw [h _ hA, h _ (hB (by omega))]; exact hu _
  split
  · split
    · exact hu _
    · exact h i hi
  · exact h i hi
theorem step_same {o : O3} {s t : St} {n : Nat} {g : Int} {b : Bool} (h : StSame s t) (hA : o.2.1.toNat < 6) (hB : o.1 = 2 ∨ o.1 = 3 ∨ o.1 = 4 ∨ o.1 = 5 → o.2.2.toNat < 6) : StSame (stepF o s n g b) (stepF o t n g b) := by
  unfold stepF
  rw [← h.f]
  split
  · exact h
  · refine ⟨?_, cells_same h.c hA hB, rfl⟩
    show nextF o s n b = nextF o t n b
    unfold nextF
    rw [h.p, h.c _ hA]
theorem small_args {p : PD} {k : KD} {r : Nat} {c : List O3} {s : St} {o : O3} (h : Turn p k r c s o) : o.2.1.toNat < 6 ∧ (o.1 = 2 ∨ o.1 = 3 ∨ o.1 = 4 ∨ o.1 = 5 → o.2.2.toNat < 6) := by
  have hr := ok3_range h.ok
  have hb := (bA_le o.1).2
  refine ⟨by omega, fun hh => ?_⟩
  rcases hh with e | e | e | e <;> simp [e, bB] at hr <;> omega
/-- One turn of a room that sees the same. -/
theorem turn_same {p : PD} {k m : KD} {r : Nat} {c : List O3} {s t : St} {o : O3} (hk : Turn p k r c s o) (hm : Turn p m r c t o) (hs : StSame s t) (hl : o.1 = 8 ∨ o.1 = 9 → ∃ l, k.lines[o.2.2.toNat]? = some l ∧ m.lines[o.2.2.toNat]? = some l) (hrk : r < k.rooms.length) (hrm : r < m.rooms.length) :
    (turnK p k r).2 = (turnK p m r).2 ∧ ∃ s' t', (turnK p k r).1.rooms[r]? = some s' ∧ (turnK p m r).1.rooms[r]? = some t' ∧ StSame s' t' := by
  obtain ⟨hA, hB⟩ := small_args hk
  have hst : ∀ g b, StSame (stepF o s c.length g b) (stepF o t c.length g b) := fun g b => step_same hs hA hB
  cases hf : s.f with
  | true =>
    have hf' : t.f = true := by rw [← hs.f]; exact hf
    rw [turn_failed hk hf, turn_failed hm hf']
    exact ⟨by rw [hs.p], s, t, hk.hs, hm.hs, hs⟩
  | false =>
    have hf' : t.f = false := by rw [← hs.f]; exact hf
    by_cases h9 : o.1 = 9
    · obtain ⟨l, h1, h2⟩ := hl (Or.inr h9)
      cases hh : (headL l).2 with
      | true =>
        rw [turn_takes hk hf h9 h1 hh, turn_takes hm hf' h9 h2 hh]
        exact ⟨by rw [hs.p], _, _, List.getElem?_set_self hrk, List.getElem?_set_self hrm, hst _ _⟩
      | false =>
        rw [turn_waits hk hf h9 h1 hh, turn_waits hm hf' h9 h2 hh]
        exact ⟨by rw [hs.p], _, _, List.getElem?_set_self hrk, List.getElem?_set_self hrm, hst _ _⟩
    · by_cases h8 : o.1 = 8
      · obtain ⟨l, h1, h2⟩ := hl (Or.inl h8)
        rw [turn_sends hk hf h8 h1, turn_sends hm hf' h8 h2]
        exact ⟨by rw [hs.p], _, _, List.getElem?_set_self hrk, List.getElem?_set_self hrm, hst _ _⟩
      · rw [turn_else hk hf h8 h9, turn_else hm hf' h8 h9]
        exact ⟨by rw [hs.p], _, _, List.getElem?_set_self hrk, List.getElem?_set_self hrm, hst _ _⟩
/-- What is seen the same is the same line. -/
theorem sees_line : ∀ {ls ms : List LnD} {ws : List W4} {r : Int}, ls.length = ws.length → ms.length = ws.length → (∀ (i : Nat) l x, ls[i]? = some l → ws[i]? = some x → l.w = x) → (∀ (i : Nat) l x, ms[i]? = some l → ws[i]? = some x → l.w = x) →
    ((ls.filter (atR r)).map fun l => (l.xs, l.ls)) = ((ms.filter (atR r)).map fun l => (l.xs, l.ls)) → ∀ (i : Nat) x, ws[i]? = some x → x.1 = r ∨ x.2.1 = r → ls[i]? = ms[i]?
  | [], [], _, _, _, _, _, _, _, i, x, _, _ => by simp
  | [], _ :: _, ws, _, h1, h2, _, _, _, _, _, _, _ => by simp at h1 h2; omega
  | _ :: _, [], ws, _, h1, h2, _, _, _, _, _, _, _ => by simp at h1 h2; omega
  | l :: ls, m :: ms, [], _, h1, _, _, _, _, _, _, _, _ => by simp at h1
  | l :: ls, m :: ms, y :: ws, r, h1, h2, h3, h4, h5, i, x, hx, hr => by
    have e1 : l.w = y := h3 0 l y rfl rfl
    have e2 : m.w = y := h4 0 m y rfl rfl
    have ea : atR r m = atR r l := by unfold atR; rw [e1, e2]
    have rest : ((ls.filter (atR r)).map fun l => (l.xs, l.ls)) = ((ms.filter (atR r)).map fun l => (l.xs, l.ls)) ∧ (atR r l = true → l = m) := by
      cases hb : atR r l with
      | true =>
        rw [List.filter_cons_of_pos (by exact hb), List.filter_cons_of_pos (by rw [ea]; exact hb)] at h5
        simp only [List.map_cons, List.cons.injEq, Prod.mk.injEq] at h5
        refine ⟨h5.2, fun _ => ?_⟩
        obtain ⟨lw, lx, ll⟩ := l
        obtain ⟨mw, mx, ml⟩ := m
        simp only at e1 e2 h5
        rw [e1, e2, h5.1.1, h5.1.2]
      | false =>
        rw [List.filter_cons_of_neg (by rw [hb]; decide), List.filter_cons_of_neg (by rw [ea, hb]; decide)] at h5
        exact ⟨h5, fun h => by cases h⟩
    cases i with
    | zero =>
      simp only [List.getElem?_cons_zero, Option.some.injEq] at hx ⊢
      subst hx
      refine rest.2 ?_
      unfold atR
      rw [e1]
      rcases hr with hr | hr <;> simp [hr]
    | succ i =>
      simp only [List.getElem?_cons_succ] at hx ⊢
      exact sees_line (by simpa using h1) (by simpa using h2) (fun j l' x' hl hx => h3 (j + 1) l' x' (by simpa using hl) (by simpa using hx)) (fun j l' x' hl hx => h4 (j + 1) l' x' (by simpa using hl) (by simpa using hx)) rest.1 i x hx hr
/-- WHO SEES THE SAME DOES THE SAME: one tick. -/
theorem tick_same {p : PD} {k m : KD} (hp : plchk p = 0) (hk : KOk p k) (hm : KOk p m) (ht : k.time = m.time) {r : Nat} (hr : r < p.code.length) {s t : St} (hs : k.rooms[r]? = some s) (htt : m.rooms[r]? = some t) (hst : StSame s t) (hsee : seesK k r = seesK m r) :
    (tickK p p.spans k).2.2.1 = (tickK p p.spans m).2.2.1 ∧ ((tickK p p.spans k).2.2.1 = (r : Int) → (tickK p p.spans k).2 = (tickK p p.spans m).2 ∧ ∃ s' t', (tickK p p.spans k).1.rooms[r]? = some s' ∧ (tickK p p.spans m).1.rooms[r]? = some t' ∧ StSame s' t') := by
  have ew : whoK p k = whoK p m := by unfold whoK; rw [ht]
  refine ⟨by rw [(tick_told p k).2, (tick_told p m).2, ew], fun hw => ?_⟩
  rw [(tick_told p k).2] at hw
  have hwm : whoK p m = r := by rw [← ew]; exact hw
  have e1 : tickK p p.spans k = ((turnK p k r).1, k.time, (r : Int), (turnK p k r).2.1, (turnK p k r).2.2) := by
    unfold whoK at hw
    unfold tickK
    simp only [hw]
    rw [if_neg (by omega), Int.toNat_natCast]
  have e2 : tickK p p.spans m = ((turnK p m r).1, m.time, (r : Int), (turnK p m r).2.1, (turnK p m r).2.2) := by
    unfold whoK at hwm
    unfold tickK
    simp only [hwm]
    rw [if_neg (by omega), Int.toNat_natCast]
  obtain ⟨c, s0, o, tk⟩ := turn_of hp hk hr
  obtain rfl : s = s0 := Option.some.inj (hs.symm.trans tk.hs)
  have tm : Turn p m r c t o := ⟨tk.hc, htt, by rw [← hst.p]; exact tk.ho, tk.ck, hm.rooms r c t tk.hc htt, tk.ok⟩
  have hl : o.1 = 8 ∨ o.1 = 9 → ∃ l, k.lines[o.2.2.toNat]? = some l ∧ m.lines[o.2.2.toNat]? = some l := fun ho => by
    have hx : ∃ x, p.wires[o.2.2.toNat]? = some x ∧ (x.1 = (r : Int) ∨ x.2.1 = (r : Int)) := by
      have := op_wire hp tk.hc (List.mem_of_getElem? tk.ho)
      rcases ho with h8 | h9
      · obtain ⟨x, h1, h2⟩ := this.1 h8
        exact ⟨x, h1, Or.inl h2⟩
      · obtain ⟨x, h1, h2⟩ := this.2 h9
        exact ⟨x, h1, Or.inr h2⟩
    obtain ⟨x, hx1, hx2⟩ := hx
    have hlt : o.2.2.toNat < k.lines.length := by rw [hk.ll]; exact (List.getElem?_eq_some_iff.1 hx1).1
    have hl1 : k.lines[o.2.2.toNat]? = some k.lines[o.2.2.toNat] := List.getElem?_eq_getElem hlt
    have := sees_line hk.ll hm.ll (fun i l x h1 h2 => (hk.lines i l x h1 h2).w) (fun i l x h1 h2 => (hm.lines i l x h1 h2).w) hsee _ x hx1 hx2
    exact ⟨_, hl1, by rw [← this]; exact hl1⟩
  have hrl : r < k.rooms.length := by rw [hk.rl]; exact hr
  have hrm : r < m.rooms.length := by rw [hm.rl]; exact hr
  obtain ⟨q1, q2⟩ := turn_same tk tm hst hl hrl hrm
  rw [e1, e2]
  refine ⟨?_, q2⟩
  rw [ht, q1]
end Go.Proofs.YtfconbblnmbnpadGreatDoor
namespace Go.Proofs.YtfconbblnmbnpadGreatDoor
open Go.ChangeShapes

theorem trodAll_four {H : Type} {enc : TypeId × Value → H} {P : Program} {w : World} {base : Nat} {spare : Nat → Bool} {held : Bool} {t0 t1 t2 t3 : TypeId} {args : Array Value} {ds : List (DataW H)} {ps : List MemPlace} (h : DataW.TrodAll enc P w base spare held [t0, t1, t2, t3] args.toList ds ps) :
    ∃ v0 v1 v2 v3 d0 d1 d2 d3 p0 p1 p2 p3, args = #[v0, v1, v2, v3] ∧ ds = [d0, d1, d2, d3] ∧ DataW.Trod enc P w base spare held t0 v0 d0 p0 ∧ DataW.Trod enc P w base spare held t1 v1 d1 p1 ∧ DataW.Trod enc P w base spare held t2 v2 d2 p2 ∧ DataW.Trod enc P w base spare held t3 v3 d3 p3 := by
  obtain ⟨v0, vs0, d0, ds0, p0, q0, hargs, rfl, rfl, h0, r0⟩ := trodAll_cons h
  obtain ⟨v1, vs1, d1, ds1, p1, q1, rfl, rfl, rfl, h1, r1⟩ := trodAll_cons r0
  obtain ⟨v2, vs2, d2, ds2, p2, q2, rfl, rfl, rfl, h2, r2⟩ := trodAll_cons r1
  obtain ⟨v3, vs3, d3, ds3, p3, q3, rfl, rfl, rfl, h3, r3⟩ := trodAll_cons r2
  obtain ⟨rfl, rfl, rfl⟩ := trodAll_nil r3
  exact ⟨v0, v1, v2, v3, d0, d1, d2, d3, p0, p1, p2, p3, by cases args; simp_all, rfl, h0, h1, h2, h3⟩
theorem trodAll_five {H : Type} {enc : TypeId × Value → H} {P : Program} {w : World} {base : Nat} {spare : Nat → Bool} {held : Bool} {t0 t1 t2 t3 t4 : TypeId} {args : Array Value} {ds : List (DataW H)} {ps : List MemPlace} (h : DataW.TrodAll enc P w base spare held [t0, t1, t2, t3, t4] args.toList ds ps) :
    ∃ v0 v1 v2 v3 v4 d0 d1 d2 d3 d4 p0 p1 p2 p3 p4, args = #[v0, v1, v2, v3, v4] ∧ ds = [d0, d1, d2, d3, d4] ∧ DataW.Trod enc P w base spare held t0 v0 d0 p0 ∧ DataW.Trod enc P w base spare held t1 v1 d1 p1 ∧ DataW.Trod enc P w base spare held t2 v2 d2 p2 ∧ DataW.Trod enc P w base spare held t3 v3 d3 p3 ∧ DataW.Trod enc P w base spare held t4 v4 d4 p4 := by
  obtain ⟨v0, vs0, d0, ds0, p0, q0, hargs, rfl, rfl, h0, r0⟩ := trodAll_cons h
  obtain ⟨v1, vs1, d1, ds1, p1, q1, rfl, rfl, rfl, h1, r1⟩ := trodAll_cons r0
  obtain ⟨v2, vs2, d2, ds2, p2, q2, rfl, rfl, rfl, h2, r2⟩ := trodAll_cons r1
  obtain ⟨v3, vs3, d3, ds3, p3, q3, rfl, rfl, rfl, h3, r3⟩ := trodAll_cons r2
  obtain ⟨v4, vs4, d4, ds4, p4, q4, rfl, rfl, rfl, h4, r4⟩ := trodAll_cons r3
  obtain ⟨rfl, rfl, rfl⟩ := trodAll_nil r4
  exact ⟨v0, v1, v2, v3, v4, d0, d1, d2, d3, d4, p0, p1, p2, p3, p4, by cases args; simp_all, rfl, h0, h1, h2, h3, h4⟩
theorem trodAll_six {H : Type} {enc : TypeId × Value → H} {P : Program} {w : World} {base : Nat} {spare : Nat → Bool} {held : Bool} {t0 t1 t2 t3 t4 t5 : TypeId} {args : Array Value} {ds : List (DataW H)} {ps : List MemPlace} (h : DataW.TrodAll enc P w base spare held [t0, t1, t2, t3, t4, t5] args.toList ds ps) :
    ∃ v0 v1 v2 v3 v4 v5 d0 d1 d2 d3 d4 d5 p0 p1 p2 p3 p4 p5, args = #[v0, v1, v2, v3, v4, v5] ∧ ds = [d0, d1, d2, d3, d4, d5] ∧ DataW.Trod enc P w base spare held t0 v0 d0 p0 ∧ DataW.Trod enc P w base spare held t1 v1 d1 p1 ∧ DataW.Trod enc P w base spare held t2 v2 d2 p2 ∧ DataW.Trod enc P w base spare held t3 v3 d3 p3 ∧ DataW.Trod enc P w base spare held t4 v4 d4 p4 ∧ DataW.Trod enc P w base spare held t5 v5 d5 p5 := by
  obtain ⟨v0, vs0, d0, ds0, p0, q0, hargs, rfl, rfl, h0, r0⟩ := trodAll_cons h
  obtain ⟨v1, vs1, d1, ds1, p1, q1, rfl, rfl, rfl, h1, r1⟩ := trodAll_cons r0
  obtain ⟨v2, vs2, d2, ds2, p2, q2, rfl, rfl, rfl, h2, r2⟩ := trodAll_cons r1
  obtain ⟨v3, vs3, d3, ds3, p3, q3, rfl, rfl, rfl, h3, r3⟩ := trodAll_cons r2
  obtain ⟨v4, vs4, d4, ds4, p4, q4, rfl, rfl, rfl, h4, r4⟩ := trodAll_cons r3
  obtain ⟨v5, vs5, d5, ds5, p5, q5, rfl, rfl, rfl, h5, r5⟩ := trodAll_cons r4
  obtain ⟨rfl, rfl, rfl⟩ := trodAll_nil r5
  exact ⟨v0, v1, v2, v3, v4, v5, d0, d1, d2, d3, d4, d5, p0, p1, p2, p3, p4, p5, by cases args; simp_all, rfl, h0, h1, h2, h3, h4, h5⟩
theorem trodAll_seven {H : Type} {enc : TypeId × Value → H} {P : Program} {w : World} {base : Nat} {spare : Nat → Bool} {held : Bool} {t0 t1 t2 t3 t4 t5 t6 : TypeId} {args : Array Value} {ds : List (DataW H)} {ps : List MemPlace} (h : DataW.TrodAll enc P w base spare held [t0, t1, t2, t3, t4, t5, t6] args.toList ds ps) :
    ∃ v0 v1 v2 v3 v4 v5 v6 d0 d1 d2 d3 d4 d5 d6 p0 p1 p2 p3 p4 p5 p6, args = #[v0, v1, v2, v3, v4, v5, v6] ∧ ds = [d0, d1, d2, d3, d4, d5, d6] ∧ DataW.Trod enc P w base spare held t0 v0 d0 p0 ∧ DataW.Trod enc P w base spare held t1 v1 d1 p1 ∧ DataW.Trod enc P w base spare held t2 v2 d2 p2 ∧ DataW.Trod enc P w base spare held t3 v3 d3 p3 ∧ DataW.Trod enc P w base spare held t4 v4 d4 p4 ∧ DataW.Trod enc P w base spare held t5 v5 d5 p5 ∧ DataW.Trod enc P w base spare held t6 v6 d6 p6 := by
  obtain ⟨v0, vs0, d0, ds0, p0, q0, hargs, rfl, rfl, h0, r0⟩ := trodAll_cons h
  obtain ⟨v1, vs1, d1, ds1, p1, q1, rfl, rfl, rfl, h1, r1⟩ := trodAll_cons r0
  obtain ⟨v2, vs2, d2, ds2, p2, q2, rfl, rfl, rfl, h2, r2⟩ := trodAll_cons r1
  obtain ⟨v3, vs3, d3, ds3, p3, q3, rfl, rfl, rfl, h3, r3⟩ := trodAll_cons r2
  obtain ⟨v4, vs4, d4, ds4, p4, q4, rfl, rfl, rfl, h4, r4⟩ := trodAll_cons r3
  obtain ⟨v5, vs5, d5, ds5, p5, q5, rfl, rfl, rfl, h5, r5⟩ := trodAll_cons r4
  obtain ⟨v6, vs6, d6, ds6, p6, q6, rfl, rfl, rfl, h6, r6⟩ := trodAll_cons r5
  obtain ⟨rfl, rfl, rfl⟩ := trodAll_nil r6
  exact ⟨v0, v1, v2, v3, v4, v5, v6, d0, d1, d2, d3, d4, d5, d6, p0, p1, p2, p3, p4, p5, p6, by cases args; simp_all, rfl, h0, h1, h2, h3, h4, h5, h6⟩
end Go.Proofs.YtfconbblnmbnpadGreatDoor
namespace Go.Proofs.YtfconbblnmbnpadGreatDoor
open Go.RowKit
set_option maxRecDepth 1000000 in
set_option maxHeartbeats 4000000 in
theorem ints2_some (la lb : List Int) (a ao ac b bo bc : Nat) (w : World) (ha : a < w.heap.size) (hb : b < w.heap.size) (hlen : la.length = lb.length) (hl : la.length ≤ 1000000)
    (hca : ∀ (i : Nat) z, la[i]? = some z → w.cell? ⟨a, ao + i, none⟩ = some (.int .i64 z)) (hcb : ∀ (i : Nat) z, lb[i]? = some z → w.cell? ⟨b, bo + i, none⟩ = some (.int .i64 z)) :
    Calls Tryz.prog 38 #[.slice (some ⟨a, ao, none⟩) la.length ac, .slice (some ⟨b, bo, none⟩) la.length bc] w fun e w' => e = .returned (.bool (decide (la = lb))) ∧ Below w.heap.size w w' := by
  have HL : Hid (la.length = lb.length) := hlen
  clear hlen
  go_enter Tryz.func38, Tryz.ntmps38
  go_wp2
  go_loopw [5] (fun i wr => ∃ k : Nat, k ≤ la.length ∧ i = .int .i64 k ∧ (∀ j : Nat, j < k → la[j]? = lb[j]?) ∧ Below w.heap.size w wr) (fun i _ => la.length - (intOf i).toNat)
  case atStart => exact ⟨0, Nat.zero_le _, rfl, fun j hj => by omega, Below.refl _ _⟩
  case round =>
    obtain ⟨k, hk, rfl, hall, hbw⟩ := hrel
    have HA : Hid (∀ j : Nat, j < k → la[j]? = lb[j]?) := hall
    clear hall
    by_cases hkl : k < la.length
    · obtain ⟨o, ho⟩ : ∃ o, la[k]? = some o := ⟨la[k], List.getElem?_eq_getElem hkl⟩
      obtain ⟨p, hp⟩ : ∃ p, lb[k]? = some p := ⟨lb[k]'(by rw [← HL.out]; exact hkl), List.getElem?_eq_getElem _⟩
      have e0 := (hbw.cell (p := ⟨a, ao + k, none⟩) ha).trans (hca k o ho)
      have f0 := (hbw.cell (p := ⟨b, bo + k, none⟩) hb).trans (hcb k p hp)
      have HO : Hid (la[k]? = some o) := ho
      have HP : Hid (lb[k]? = some p) := hp
      clear ho hp
      have hki : (k : Int) < (la.length : Int) := by omega
      by_cases hop : o = p
      · subst hop
        go_wp2
        go_quiet (fail)
        go_wp2
        go_roundw
        case rel =>
          refine ⟨k + 1, by omega, by go_num, fun j hj => ?_, below_dN hbw _⟩
          by_cases hjk : j < k
          · exact HA.out j hjk
          · obtain rfl : j = k := by omega
            rw [HO.out, HP.out]
        case measure => simp [intOf]; omega
      · have hdd : (o == p) = false := by simpa using hop
        have HN : Hid (decide (la = lb) = false) := by
          show _ = _
          simp only [decide_eq_false_iff_not]
          intro e
          have h1 := HO.out
          rw [e, HP.out] at h1
          exact hop (Option.some.inj h1).symm
        clear hop
        go_wp2
        go_quiet (fail)
        go_wp2
        go_ret
        exact ⟨wretB HN.out.symm, below_dN hbw _⟩
    · have HN : Hid (decide (la = lb) = true) := by
        show _ = _
        simp only [decide_eq_true_eq]
        apply List.ext_getElem?
        intro j
        by_cases hj : j < k
        · exact HA.out j hj
        · rw [List.getElem?_eq_none (by omega), List.getElem?_eq_none (by rw [← HL.out]; omega)]
      go_wp2
      go_ret
      exact ⟨wretB HN.out.symm, hbw⟩
set_option maxRecDepth 1000000 in
set_option maxHeartbeats 4000000 in
theorem ints2_other (n m ac bc : Nat) (a b : Option Addr) (w : World) (h : ((n : Int) == (m : Int)) = false) :
    Calls Tryz.prog 38 #[.slice a n ac, .slice b m bc] w fun e w' => e = .returned (.bool false) ∧ Below w.heap.size w w' := by
  go_enter Tryz.func38, Tryz.ntmps38
  go_wp2
  go_ret
  exact ⟨rfl, Below.refl _ _⟩
set_option maxRecDepth 1000000 in
set_option maxHeartbeats 4000000 in
theorem ints2_nil (a b : Option Addr) (ac bc : Nat) (w : World) :
    Calls Tryz.prog 38 #[.slice a 0 ac, .slice b 0 bc] w fun e w' => e = .returned (.bool true) ∧ Below w.heap.size w w' := by
  go_enter Tryz.func38, Tryz.ntmps38
  go_wp2
  refine wp_loop_rounds 1 ?_
  rw [rounds_succ]
  go_wp2
  go_ret
  exact ⟨rfl, Below.refl _ _⟩
theorem ints2_any (va vb : Value) (la lb : List Int) (w : World) (ha : Rd w va la) (hb : Rd w vb lb) (hl : la.length ≤ 1000000) :
    Calls Tryz.prog 38 #[va, vb] w fun e w' => e = .returned (.bool (decide (la = lb))) ∧ Below w.heap.size w w' := by
  by_cases hlen : la.length = lb.length
  · rcases ha with ⟨rfl, ao, ac, rfl⟩ | ⟨a, ao, ac, rfl, _, _, hlta, hca⟩
    · have hlb : lb = [] := List.eq_nil_of_length_eq_zero (by simpa using hlen.symm)
      subst hlb
      obtain ⟨bo, bc, hvb⟩ := hb.form
      rw [hvb]
      exact ints2_nil ao bo ac bc w
    · rcases hb with ⟨rfl, bo, bc, rfl⟩ | ⟨b, bo, bc, rfl, _, _, hltb, hcb⟩
      · have hla : la = [] := List.eq_nil_of_length_eq_zero (by simpa using hlen)
        subst hla
        exact ints2_nil _ bo ac bc w
      · rw [← hlen]
        exact ints2_some la lb a ao ac b bo bc w hlta hltb hlen hl hca hcb
  · obtain ⟨ao, ac, rfl⟩ := ha.form
    obtain ⟨bo, bc, rfl⟩ := hb.form
    rw [show decide (la = lb) = false by simp only [decide_eq_false_iff_not]; intro e; exact hlen (by rw [e])]
    exact ints2_other _ _ _ _ _ _ w (by simp; omega)
set_option maxRecDepth 1000000 in
set_option maxHeartbeats 4000000 in
theorem held2_any (va vb : Value) (la lb : List Int) (x y : Int) (w : World) (ha : Rd w va la) (hb : Rd w vb lb) (hl : la.length ≤ 1000000) :
    Calls Tryz.prog 15 #[.agg #[va, .int .i64 x], .agg #[vb, .int .i64 y]] w fun e w' => e = .returned (.bool (decide ((la, x) = (lb, y)))) ∧ Below w.heap.size w w' := by
  obtain ⟨aa, ac, rfl⟩ := ha.form
  obtain ⟨ba, bc, rfl⟩ := hb.form
  have hA : Below w.heap.size w ((w.alloc (.cells #[.slice aa la.length ac, .int .i64 x] 54)).alloc (.cells #[.slice ba lb.length bc, .int .i64 y] 54)) := ((Below.refl _ _).alloc (Nat.le_refl _) _).alloc (by simp) _
  have h := ints2_any _ _ la lb _ (ha.all hA) (hb.all hA) hl
  clear ha hb
  by_cases hxy : x = y
  · subst hxy
    have e : decide ((la, x) = (lb, x)) = decide (la = lb) := by simp
    rw [e]
    clear e
    generalize decide (la = lb) = q at h ⊢
    go_enter Tryz.func15, Tryz.ntmps15
    go_wp2_with (go_at_call 38; refine h.mono ?_; rintro e w1 ⟨rfl, b1⟩; clear h)
    go_ret
    exact ⟨rfl, hA.trans (b1.mono hA.size)⟩
  · have hq : (x == y) = false := by simpa using hxy
    have e : decide ((la, x) = (lb, y)) = false := by simp [hxy]
    rw [e]
    clear e h
    go_enter Tryz.func15, Tryz.ntmps15
    go_wp2
    go_ret
    exact ⟨rfl, hA⟩
end Go.Proofs.YtfconbblnmbnpadGreatDoor
namespace Go.Proofs.YtfconbblnmbnpadGreatDoor
open Go.RowKit

/-- What wires hold, in a row that can be read. -/
def HdL (w : World) (v : Value) (l : List (List Int × Int)) : Prop :=
  (l = [] ∧ ∃ ao cap, v = .slice ao 0 cap) ∨ ∃ b off cap, v = .slice (some ⟨b, off, none⟩) l.length cap ∧ b < w.heap.size ∧ ∀ (i : Nat) x, l[i]? = some x → ∃ u, w.cell? ⟨b, off + i * 2, none⟩ = some u ∧ w.cell? ⟨b, off + i * 2 + 1, none⟩ = some (.int .i64 x.2) ∧ Rd w u x.1
theorem HdL.form {w : World} {v : Value} {l : List (List Int × Int)} (h : HdL w v l) : ∃ ao cap, v = .slice ao l.length cap := by
  rcases h with ⟨rfl, ao, cap, rfl⟩ | ⟨b, off, cap, rfl, _⟩
  · exact ⟨ao, cap, rfl⟩
  · exact ⟨_, cap, rfl⟩
theorem HdL.all {w w' : World} {v : Value} {l : List (List Int × Int)} (h : HdL w v l) (hb : Below w.heap.size w w') : HdL w' v l := by
  rcases h with h | ⟨b, off, cap, rfl, hlt, hc⟩
  · exact Or.inl h
  · refine Or.inr ⟨b, off, cap, rfl, Nat.lt_of_lt_of_le hlt hb.size, fun i x hi => ?_⟩
    obtain ⟨u, h1, h2, h3⟩ := hc i x hi
    exact ⟨u, (hb.cell (p := ⟨b, _, none⟩) hlt).trans h1, (hb.cell (p := ⟨b, _, none⟩) hlt).trans h2, h3.all hb⟩
/-- Short rows alone. -/
def ShortH (l : List (List Int × Int)) : Prop := ∀ x ∈ l, x.1.length ≤ 1000000
set_option maxRecDepth 1000000 in
set_option maxHeartbeats 4000000 in
theorem helds2_some (la lb : List (List Int × Int)) (a ao ac b bo bc : Nat) (w : World) (ha : a < w.heap.size) (hb : b < w.heap.size) (hlen : la.length = lb.length) (hl : la.length ≤ 1000000) (hsh : ShortH la)
    (hca : ∀ (i : Nat) x, la[i]? = some x → ∃ u, w.cell? ⟨a, ao + i * 2, none⟩ = some u ∧ w.cell? ⟨a, ao + i * 2 + 1, none⟩ = some (.int .i64 x.2) ∧ Rd w u x.1) (hcb : ∀ (i : Nat) x, lb[i]? = some x → ∃ u, w.cell? ⟨b, bo + i * 2, none⟩ = some u ∧ w.cell? ⟨b, bo + i * 2 + 1, none⟩ = some (.int .i64 x.2) ∧ Rd w u x.1) :
    Calls Tryz.prog 22 #[.slice (some ⟨a, ao, none⟩) la.length ac, .slice (some ⟨b, bo, none⟩) la.length bc] w fun e w' => e = .returned (.bool (decide (la = lb))) ∧ Below w.heap.size w w' := by
  have HL : Hid (la.length = lb.length) := hlen
  clear hlen
  go_enter Tryz.func22, Tryz.ntmps22
  go_wp2
  go_loopw [5] (fun i wr => ∃ k : Nat, k ≤ la.length ∧ i = .int .i64 k ∧ (∀ j : Nat, j < k → la[j]? = lb[j]?) ∧ Below w.heap.size w wr) (fun i _ => la.length - (intOf i).toNat)
  case atStart => exact ⟨0, Nat.zero_le _, rfl, fun j hj => by omega, Below.refl _ _⟩
  case round =>
    obtain ⟨k, hk, rfl, hall, hbw⟩ := hrel
    have HA : Hid (∀ j : Nat, j < k → la[j]? = lb[j]?) := hall
    clear hall
    by_cases hkl : k < la.length
    · obtain ⟨x, ho⟩ : ∃ o, la[k]? = some o := ⟨la[k], List.getElem?_eq_getElem hkl⟩
      obtain ⟨y, hp⟩ : ∃ p, lb[k]? = some p := ⟨lb[k]'(by rw [← HL.out]; exact hkl), List.getElem?_eq_getElem _⟩
      obtain ⟨u, e0, e1, e2⟩ := hca k x ho
      obtain ⟨v, f0, f1, f2⟩ := hcb k y hp
      replace e0 := (hbw.cell (p := ⟨a, ao + k * 2, none⟩) ha).trans e0
      replace e1 := (hbw.cell (p := ⟨a, ao + k * 2 + 1, none⟩) ha).trans e1
      replace f0 := (hbw.cell (p := ⟨b, bo + k * 2, none⟩) hb).trans f0
      replace f1 := (hbw.cell (p := ⟨b, bo + k * 2 + 1, none⟩) hb).trans f1
      have HO : Hid (la[k]? = some x) := ho
      have HP : Hid (lb[k]? = some y) := hp
      have hxl : x.1.length ≤ 1000000 := hsh x (List.mem_of_getElem? ho)
      have HH : Hid (∀ W, Below wr.heap.size wr W → Calls Tryz.prog 15 #[.agg #[u, .int .i64 x.2], .agg #[v, .int .i64 y.2]] W fun e w' => e = .returned (.bool (decide (x = y))) ∧ Below W.heap.size W w') := fun W hbW => held2_any u v x.1 y.1 x.2 y.2 W (e2.all (hbw.trans (hbW.mono hbw.size))) (f2.all (hbw.trans (hbW.mono hbw.size))) hxl
      clear ho hp e2 f2
      have hki : (k : Int) < (la.length : Int) := by omega
      have bQ : Below wr.heap.size wr wr.drew := (Below.refl _ _).drew
      have haw : a < wr.heap.size := Nat.lt_of_lt_of_le ha hbw.size
      have hbwr : b < wr.heap.size := Nat.lt_of_lt_of_le hb hbw.size
      have hcs : ∀ W, Below wr.heap.size wr W → W.cell? ⟨a, ao + k * 2, none⟩ = some u ∧ W.cell? ⟨a, ao + k * 2 + 1, none⟩ = some (.int .i64 x.2) ∧ W.cell? ⟨b, bo + k * 2, none⟩ = some v ∧ W.cell? ⟨b, bo + k * 2 + 1, none⟩ = some (.int .i64 y.2) := fun W hW => ⟨(hW.cell (p := ⟨a, _, none⟩) haw).trans e0, (hW.cell (p := ⟨a, _, none⟩) haw).trans e1, (hW.cell (p := ⟨b, _, none⟩) hbwr).trans f0, (hW.cell (p := ⟨b, _, none⟩) hbwr).trans f1⟩
      obtain ⟨q, hq⟩ : ∃ q, decide (x = y) = q := ⟨_, rfl⟩
      rw [hq] at HH
      have HQ : Hid (decide (x = y) = q) := hq
      clear hq
      go_upto_region 6 with fail
      go_region_held3 (fun W => W.cell? ⟨a, ao + k * 2, none⟩ = some u ∧ W.cell? ⟨a, ao + k * 2 + 1, none⟩ = some (.int .i64 x.2) ∧ W.cell? ⟨b, bo + k * 2, none⟩ = some v ∧ W.cell? ⟨b, bo + k * 2 + 1, none⟩ = some (.int .i64 y.2))
        (first | exact ⟨e0, e1, f0, f1⟩ | exact hcs _ bW | go_keep)
        (first
          | (go_at_call 15; refine (HH.out _ bQ).mono ?_; rintro e w1 ⟨rfl, b1⟩; have bW : Below wr.heap.size wr w1 := bQ.trans (b1.mono (Nat.le_refl _))))
      cases q with
      | true =>
        go_wp2
        go_roundw
        case rel =>
          refine ⟨k + 1, by omega, by go_num, fun j hj => ?_, hbw.trans (bW.mono hbw.size)⟩
          by_cases hjk : j < k
          · exact HA.out j hjk
          · obtain rfl : j = k := by omega
            rw [HO.out, HP.out, of_decide_eq_true HQ.out]
        case measure => simp [intOf]; omega
      | false =>
        have HN : Hid (decide (la = lb) = false) := by
          show _ = _
          simp only [decide_eq_false_iff_not]
          intro e
          have h1 := HO.out
          rw [e, HP.out] at h1
          exact of_decide_eq_false HQ.out (Option.some.inj h1).symm
        go_wp2
        go_ret
        exact ⟨wretB HN.out.symm, hbw.trans (bW.mono hbw.size)⟩
    · have HN : Hid (decide (la = lb) = true) := by
        show _ = _
        simp only [decide_eq_true_eq]
        apply List.ext_getElem?
        intro j
        by_cases hj : j < k
        · exact HA.out j hj
        · rw [List.getElem?_eq_none (by omega), List.getElem?_eq_none (by rw [← HL.out]; omega)]
      go_wp2
      go_ret
      exact ⟨wretB HN.out.symm, hbw⟩
set_option maxRecDepth 1000000 in
set_option maxHeartbeats 4000000 in
theorem helds2_other (n m ac bc : Nat) (a b : Option Addr) (w : World) (h : ((n : Int) == (m : Int)) = false) :
    Calls Tryz.prog 22 #[.slice a n ac, .slice b m bc] w fun e w' => e = .returned (.bool false) ∧ Below w.heap.size w w' := by
  go_enter Tryz.func22, Tryz.ntmps22
  go_wp2
  go_ret
  exact ⟨rfl, Below.refl _ _⟩
set_option maxRecDepth 1000000 in
set_option maxHeartbeats 4000000 in
theorem helds2_nil (a b : Option Addr) (ac bc : Nat) (w : World) :
    Calls Tryz.prog 22 #[.slice a 0 ac, .slice b 0 bc] w fun e w' => e = .returned (.bool true) ∧ Below w.heap.size w w' := by
  go_enter Tryz.func22, Tryz.ntmps22
  go_wp2
  refine wp_loop_rounds 1 ?_
  rw [rounds_succ]
  go_wp2
  go_ret
  exact ⟨rfl, Below.refl _ _⟩
theorem helds2_any (va vb : Value) (la lb : List (List Int × Int)) (w : World) (ha : HdL w va la) (hb : HdL w vb lb) (hl : la.length ≤ 1000000) (hsh : ShortH la) :
    Calls Tryz.prog 22 #[va, vb] w fun e w' => e = .returned (.bool (decide (la = lb))) ∧ Below w.heap.size w w' := by
  by_cases hlen : la.length = lb.length
  · rcases ha with ⟨rfl, ao, ac, rfl⟩ | ⟨a, ao, ac, rfl, hlta, hca⟩
    · have hlb : lb = [] := List.eq_nil_of_length_eq_zero (by simpa using hlen.symm)
      subst hlb
      obtain ⟨bo, bc, hvb⟩ := hb.form
      rw [hvb]
      exact helds2_nil ao bo ac bc w
    · rcases hb with ⟨rfl, bo, bc, rfl⟩ | ⟨b, bo, bc, rfl, hltb, hcb⟩
      · have hla : la = [] := List.eq_nil_of_length_eq_zero (by simpa using hlen)
        subst hla
        exact helds2_nil _ bo ac bc w
      · rw [← hlen]
        exact helds2_some la lb a ao ac b bo bc w hlta hltb hlen hl hsh hca hcb
  · obtain ⟨ao, ac, rfl⟩ := ha.form
    obtain ⟨bo, bc, rfl⟩ := hb.form
    rw [show decide (la = lb) = false by simp only [decide_eq_false_iff_not]; intro e; exact hlen (by rw [e])]
    exact helds2_other _ _ _ _ _ _ w (by simp; omega)
end Go.Proofs.YtfconbblnmbnpadGreatDoor
namespace Go.Proofs.YtfconbblnmbnpadGreatDoor
open Go.RowKit

structure HdR (B : Nat) (W : World) (v : Value) (l : List (Value × Int)) (xs : List (List Int × Int)) : Prop where
  own : W.ownsRow B 54 2 v l.length (hdCells l)
  len : l.length = xs.length
  rd : ∀ (i : Nat) x y, l[i]? = some x → xs[i]? = some y → Rd W x.1 y.1 ∧ x.2 = y.2
  ap : ∀ x ∈ l, ∀ g, x.1.ownBlock = some g → g < W.heap.size ∧ v.ownBlock ≠ some g
theorem HdR.nil (B : Nat) (W : World) : HdR B W (.slice none 0 0) [] [] := ⟨World.ownsRow_nil _ _ _ _, rfl, fun i x y h => by simp at h, fun x hx => by cases hx⟩
theorem HdR.hdl {B : Nat} {W : World} {v : Value} {l : List (Value × Int)} {xs : List (List Int × Int)} (h : HdR B W v l xs) : HdL W v xs := by
  have hlt := h.own.lt
  have hcs := @World.ownsRow.cells _ _ _ _ _ _ _ h.own
  rcases h.own.2 with ⟨rfl, h0⟩ | ⟨g, cap, cur, rfl, _, _, hcap, _⟩
  · exact Or.inl ⟨List.eq_nil_of_length_eq_zero (by rw [← h.len]; exact h0), _, _, rfl⟩
  · have hat : ∀ j u, (hdCells l)[j]? = some u → W.cell? ⟨g, j, none⟩ = some u := fun j u hu => by
      have := hcs rfl j u hu
      rwa [Addr.add_lit, Nat.zero_add] at this
    refine Or.inr ⟨g, 0, cap, by rw [h.len], (hlt g rfl).2, fun i y hy => ?_⟩
    have hil : i < l.length := by rw [h.len]; exact (List.getElem?_eq_some_iff.1 hy).1
    have hx : l[i]? = some l[i] := List.getElem?_eq_getElem hil
    obtain ⟨q0, q1⟩ := hdCells_at l i _ hx
    obtain ⟨r0, r1⟩ := h.rd i _ y hx hy
    rw [Nat.zero_add]
    exact ⟨_, hat _ _ q0, by rw [← r1]; exact hat _ _ q1, r0⟩
theorem HdR.all {B : Nat} {W W' : World} {v : Value} {l : List (Value × Int)} {xs : List (List Int × Int)} (h : HdR B W v l xs) (hb : Below W.heap.size W W') : HdR B W' v l xs :=
  ⟨own_below h.own hb (Nat.le_refl _), h.len, fun i x y hx hy => ⟨(h.rd i x y hx hy).1.all hb, (h.rd i x y hx hy).2⟩, fun x hx g hg => ⟨Nat.lt_of_lt_of_le (h.ap x hx g hg).1 hb.size, (h.ap x hx g hg).2⟩⟩
/-- One more. -/
theorem HdR.more {B : Nat} {W w8 : World} {v v' u : Value} {l : List (Value × Int)} {xs : List (List Int × Int)} {y : List Int × Int} (h : HdR B W v l xs) (hu : Rd W u y.1) (hua : ∀ g, u.ownBlock = some g → g < W.heap.size ∧ v.ownBlock ≠ some g) {o : Obj} (hg : (W.alloc o).grownBy w8 v.ownBlock)
    (hown : w8.ownsRow B 54 2 v' (l.length + 1) (hdCells l ++ [u, .int .i64 y.2])) (hnew : ∀ g, v'.ownBlock = some g → v.ownBlock = some g ∨ W.heap.size + 1 ≤ g) : HdR B w8 v' (l ++ [(u, y.2)]) (xs ++ [y]) := by
  have hs2 : (W.alloc o).heap.size = W.heap.size + 1 := by simp
  have hs8 : W.heap.size + 1 ≤ w8.heap.size := by have := hg.size; omega
  have hk : ∀ g, g < W.heap.size → v.ownBlock ≠ some g → w8.heap[g]? = W.heap[g]? := fun g h1 h2 => (hg.block g (by omega) (fun e => h2 e.symm)).trans (Below.heap_alloc _ _ _ h1)
  refine ⟨by rw [List.length_append, hdCells_snoc]; exact hown, by simp [h.len], fun i x z hx hz => ?_, fun x hx g hgx => ?_⟩
  · by_cases hil : i < l.length
    · rw [List.getElem?_append_left hil] at hx
      rw [List.getElem?_append_left (by rw [← h.len]; exact hil)] at hz
      obtain ⟨h1, h2⟩ := h.rd i x z hx hz
      exact ⟨h1.block (fun g hg' he => hk g hg' (h.ap x (List.mem_of_getElem? hx) g he).2) (by omega), h2⟩
    · have hlt := (List.getElem?_eq_some_iff.1 hx).1
      rw [List.length_append, List.length_singleton] at hlt
      obtain rfl : i = l.length := by omega
      rw [List.getElem?_append_right (Nat.le_refl _), Nat.sub_self] at hx
      rw [List.getElem?_append_right (by rw [h.len]; exact Nat.le_refl _), h.len, Nat.sub_self] at hz
      simp only [List.getElem?_cons_zero, Option.some.injEq] at hx hz
      subst hx
      subst hz
      exact ⟨hu.block (fun g hg' he => hk g hg' (hua g he).2) (by omega), rfl⟩
  · have hq : g < W.heap.size ∧ v.ownBlock ≠ some g := by
      rcases List.mem_append.1 hx with h1 | h1
      · exact h.ap x h1 g hgx
      · rw [List.mem_singleton] at h1
        subst h1
        exact hua g hgx
    refine ⟨by omega, fun e => ?_⟩
    rcases hnew g e with h5 | h5
    · exact hq.2 h5
    · omega
end Go.Proofs.YtfconbblnmbnpadGreatDoor
namespace Go.Proofs.YtfconbblnmbnpadGreatDoor
open Go.RowKit

def hdOf (l : LnD) : List Int × Int := (l.xs, l.ls)
theorem sees_take (ls : List LnD) (r : Int) (n : Nat) (l : LnD) (h : ls[n]? = some l) : (((ls.take (n + 1)).filter (atR r)).map hdOf) = (((ls.take n).filter (atR r)).map hdOf) ++ (if atR r l = true then [hdOf l] else []) := by
  rw [List.take_add_one, h, Option.toList_some, List.filter_append, List.map_append]
  cases hb : atR r l <;> simp [hb]
set_option maxRecDepth 100000 in
set_option maxHeartbeats 8000000 in
theorem rsees_any (p : PD) (vc vs vw : Value) (k : KD) (a : KW) (base : Nat) (r : Int) (w : World) (h : RK w base p vc vs vw k a) (hk : KOk p k) (hp : plchk p = 0) :
    Calls Tryz.prog 20 #[.pointer (some ⟨a.kb, 0, none⟩), .int .i64 r] w fun e w' => ∃ v, e = .returned v ∧ HdL w' v (seesK k r) ∧ Below w.heap.size w w' := by
  obtain ⟨jj, hj, hy0, hy1, hy2⟩ := info_parts infoHd
  have H : Hid (RK w base p vc vs vw k a) := h
  have hkb : a.kb < w.heap.size := Nat.lt_of_lt_of_le h.lt.1 h.le
  have hw12 : k.lines.length ≤ 12 := by rw [hk.ll]; exact (wschk_ok (plchk_zero hp).2.2.2.1).1
  have hlv : ∃ ao cap, a.lv = .slice ao k.lines.length cap := by
    rcases h.lv with ⟨h1, h2⟩ | ⟨cap, h1, _⟩
    · exact ⟨none, 0, by rw [h2, h1]; rfl⟩
    · exact ⟨_, cap, h1⟩
  obtain ⟨lo, lc, hlv⟩ := hlv
  clear h
  go_enter Tryz.func20, Tryz.ntmps20
  go_wp2
  go_loopw [5, 6] (fun v i wr => ∃ (n : Nat) (l : List (Value × Int)), n ≤ k.lines.length ∧ i = .int .i64 n ∧ HdR w.heap.size wr v l (((k.lines.take n).filter (atR r)).map hdOf) ∧ Below w.heap.size w wr) (fun _ i _ => k.lines.length - (intOf i).toNat)
  case atStart => exact ⟨0, [], Nat.zero_le _, rfl, HdR.nil _ _, Below.refl _ _⟩
  case round =>
    obtain ⟨n, l, hn, rfl, hrow, hbw⟩ := hrel
    have D := H.out.all hbw
    have c5 := D.c5
    rw [hlv] at c5
    obtain ⟨vo, vn, vk, rfl⟩ := own_form hrow.own
    by_cases hnl : n < k.lines.length
    · have hni : (n : Int) < (k.lines.length : Int) := by omega
      obtain ⟨lb, lu, lcap, ln, hl, hlb, hlu, hlv', hlc, hlp, hlm, hRl⟩ := D.at hnl
      obtain ⟨x, hx⟩ : ∃ x, p.wires[n]? = some x := ⟨_, List.getElem?_eq_getElem (by rw [← hk.ll]; exact hnl)⟩
      have hxw := (hk.lines n ln x hl hx).w
      obtain ⟨f0, f1⟩ := D.ft n lb x hlb hx
      rw [← hxw] at f0 f1
      rw [hlv'] at hlv
      rw [← hlv] at c5
      obtain ⟨ua, uc, rfl⟩ := hRl.rd.form
      obtain ⟨_, _, q4, q5, _, _⟩ := hRl.c
      have HT := sees_take k.lines r n ln hl
      have hul : ∀ g, (Value.slice ua ln.xs.length uc).ownBlock = some g → g < w.heap.size := fun g hg => by
        have := (H.out.rows _ (List.mem_of_getElem? hlu) g hg).2
        exact this
      have hown0 := hrow.own
      have HRw : Hid (HdR w.heap.size wr (.slice vo vn vk) l (((k.lines.take n).filter (atR r)).map hdOf)) := hrow
      have HRd : Hid (Rd wr (.slice ua ln.xs.length uc) ln.xs) := hRl.rd
      have hsw := hbw.size
      by_cases ha : atR r ln = true
      · rw [if_pos ha] at HT
        have HX : Hid (((k.lines.take (n + 1)).filter (atR r)).map hdOf = ((k.lines.take n).filter (atR r)).map hdOf ++ [hdOf ln]) := HT
        have hl12 : l.length + 1 ≤ 12 := by
          have h1 := hrow.len
          have h2 : (((k.lines.take n).filter (atR r)).map hdOf).length ≤ n := by
            rw [List.length_map]
            exact Nat.le_trans (List.length_filter_le _ _) (by rw [List.length_take]; omega)
          omega
        have hor : ln.w.1 = r ∨ (ln.w.1 ≠ r ∧ ln.w.2.1 = r) := by
          unfold atR at ha
          simp only [Bool.or_eq_true, decide_eq_true_eq] at ha
          by_cases e : ln.w.1 = r
          · exact Or.inl e
          · exact Or.inr ⟨e, ha.resolve_left e⟩
        clear HT hrow ha hRl hl hx hxw D
        have hfin : ∀ (v1 : Value) (w8 : World), w8.ownsRow w.heap.size 54 2 v1 (l.length + 1) (hdCells l ++ [.slice ua ln.xs.length uc, .int .i64 ln.ls]) → (wr.alloc (.cells #[.slice ua ln.xs.length uc, .int .i64 ln.ls] 54)).grownBy w8 (Value.slice vo vn vk).ownBlock → (∀ g, v1.ownBlock = some g → (Value.slice vo vn vk).ownBlock = some g ∨ wr.heap.size + 1 ≤ g) → HdR w.heap.size w8 v1 (l ++ [(.slice ua ln.xs.length uc, ln.ls)]) (((k.lines.take (n + 1)).filter (atR r)).map hdOf) ∧ Below w.heap.size w w8 := fun v1 w8 o1 o2 o3 => by
          rw [HX.out]
          refine ⟨HRw.out.more (y := hdOf ln) HRd.out (fun g hg => ⟨Nat.lt_of_lt_of_le (hul g hg) hsw, fun e => ?_⟩) o2 o1 o3, ?_⟩
          · have := (HRw.out.own.lt g e).1
            have := hul g hg
            omega
          · exact (hbw.alloc hbw.size _).grown o2 (by simp; omega) (fun j hj => (HRw.out.own.lt j hj).1)
        have HFin := hfin
        have HF : Hid _ := HFin
        clear hfin HFin
        rcases hor with e | ⟨e1, e2⟩
        · rw [e] at f0
          go_wp2_with (at_builtin; refine wpList_append_at _ rfl _ _ 69 rfl w.heap.size 54 jj _ 2 32 Tryz.underlying69 hj hy0 hy1 hy2 rfl (by decide) _ _ _ rfl (hown0.alloc _) ⟨wr.heap.size, 0, none⟩ 1 1 [.slice ua ln.xs.length uc, .int .i64 ln.ls] rfl rfl ?c1A ?c2A ?c3A ?c4A ?c5A ?_)
          case c1A => exact hd_new rfl _ _ _
          case c2A => intro u hu; simp at hu; rcases hu with rfl | rfl <;> rfl
          case c3A => unfold maxLen; omega
          case c4A => omega
          case c5A => simp; omega
          intro v1 w8 own8 hg8 hnw8
          have HQ : Hid _ := HF.out v1 w8 own8 hg8 (fun g hg => by have := hnw8 g hg; simpa using this)
          obtain ⟨g8, cap8, rfl⟩ := own_succ own8
          clear own8 hg8 hnw8 hown0
          go_wp2
          go_roundw
          case rel => exact ⟨n + 1, _, by omega, by go_num, HQ.out.1, HQ.out.2⟩
          case measure => simp [intOf]; omega
        · have hq : (ln.w.1 == r) = false := by simpa using e1
          rw [e2] at f1
          go_wp2_with (at_builtin; refine wpList_append_at _ rfl _ _ 69 rfl w.heap.size 54 jj _ 2 32 Tryz.underlying69 hj hy0 hy1 hy2 rfl (by decide) _ _ _ rfl (hown0.alloc _) ⟨wr.heap.size, 0, none⟩ 1 1 [.slice ua ln.xs.length uc, .int .i64 ln.ls] rfl rfl ?c1A ?c2A ?c3A ?c4A ?c5A ?_)
          case c1A => exact hd_new rfl _ _ _
          case c2A => intro u hu; simp at hu; rcases hu with rfl | rfl <;> rfl
          case c3A => unfold maxLen; omega
          case c4A => omega
          case c5A => simp; omega
          intro v1 w8 own8 hg8 hnw8
          have HQ : Hid _ := HF.out v1 w8 own8 hg8 (fun g hg => by have := hnw8 g hg; simpa using this)
          obtain ⟨g8, cap8, rfl⟩ := own_succ own8
          clear own8 hg8 hnw8 hown0
          go_wp2
          go_roundw
          case rel => exact ⟨n + 1, _, by omega, by go_num, HQ.out.1, HQ.out.2⟩
          case measure => simp [intOf]; omega
      · rw [if_neg ha, List.append_nil] at HT
        have HX : Hid (((k.lines.take (n + 1)).filter (atR r)).map hdOf = ((k.lines.take n).filter (atR r)).map hdOf) := HT
        unfold atR at ha
        simp only [Bool.or_eq_true, decide_eq_true_eq, not_or] at ha
        have hq1 : (ln.w.1 == r) = false := by simpa using ha.1
        have hq2 : (ln.w.2.1 == r) = false := by simpa using ha.2
        clear HT hrow ha hRl hl hx hxw D
        go_wp2
        go_roundw
        case rel => exact ⟨n + 1, l, by omega, by go_num, by rw [HX.out]; exact HRw.out, hbw⟩
        case measure => simp [intOf]; omega
    · obtain rfl : n = k.lines.length := by omega
      have hq : decide ((k.lines.length : Int) < (k.lines.length : Int)) = false := decide_eq_false (by omega)
      have hq' : decide (k.lines.length < k.lines.length) = false := decide_eq_false (by omega)
      have HRw : Hid (HdL wr (.slice vo vn vk) (seesK k r)) := by
        have := hrow.hdl
        rw [List.take_length] at this
        exact this
      clear hrow D
      go_wp2
      go_ret
      exact ⟨_, rfl, HRw.out, hbw⟩
end Go.Proofs.YtfconbblnmbnpadGreatDoor
namespace Go.Proofs.YtfconbblnmbnpadGreatDoor
open Go.RowKit

/-- States in a row that can be read. -/
def StL (w : World) (v : Value) (l : List St) : Prop :=
  (l = [] ∧ ∃ ao cap, v = .slice ao 0 cap) ∨ ∃ b off cap, v = .slice (some ⟨b, off, none⟩) l.length cap ∧ l.length ≤ cap ∧ b < w.heap.size ∧ ∀ (i : Nat) s, l[i]? = some s → StC w b (off + i * 8) s
theorem StL.form {w : World} {v : Value} {l : List St} (h : StL w v l) : ∃ ao cap, v = .slice ao l.length cap := by
  rcases h with ⟨rfl, ao, cap, rfl⟩ | ⟨b, off, cap, rfl, _⟩
  · exact ⟨ao, cap, rfl⟩
  · exact ⟨_, cap, rfl⟩
theorem StL.all {w w' : World} {v : Value} {l : List St} (h : StL w v l) (hb : Below w.heap.size w w') : StL w' v l := by
  rcases h with h | ⟨b, off, cap, rfl, hcap, hlt, hc⟩
  · exact Or.inl h
  · exact Or.inr ⟨b, off, cap, rfl, hcap, Nat.lt_of_lt_of_le hlt hb.size, fun i s hi => (hc i s hi).block (hb.block b hlt)⟩
theorem StL.own {w : World} {base : Nat} {v : Value} {l : List St} (h : w.ownsRow base 46 8 v l.length (stCells l)) : StL w v l := by
  have hl := h.lt
  have hcs := @World.ownsRow.cells _ _ _ _ _ _ _ h
  rcases h.2 with ⟨rfl, h0⟩ | ⟨g, cap, cur, rfl, _, _, hcap, _⟩
  · exact Or.inl ⟨List.eq_nil_of_length_eq_zero h0, _, _, rfl⟩
  · have hat : ∀ j u, (stCells l)[j]? = some u → w.cell? ⟨g, j, none⟩ = some u := fun j u hu => by
      have := hcs rfl j u hu
      rwa [Addr.add_lit, Nat.zero_add] at this
    refine Or.inr ⟨g, 0, cap, rfl, hcap, (hl g rfl).2, fun i s hs => ?_⟩
    obtain ⟨q0, q1, q2, q3, q4, q5, q6, q7⟩ := stCells_at l i s hs
    rw [Nat.zero_add]
    exact ⟨hat _ _ q0, hat _ _ q1, hat _ _ q2, hat _ _ q3, hat _ _ q4, hat _ _ q5, hat _ _ q6, hat _ _ q7⟩
end Go.Proofs.YtfconbblnmbnpadGreatDoor
namespace Go.Proofs.YtfconbblnmbnpadGreatDoor
open Go.RowKit

/-- The row of a caller's own has grown. -/
theorem KTouch.row {w w2 wa : World} {row : Option Nat} (hb : Below w.heap.size w w2) (hg : w2.grownBy wa row) : KTouch row.toList w wa :=
  ⟨hg.os.trans hb.os, hg.tape.trans hb.tape, hg.output.trans hb.output, Nat.le_trans hb.size hg.size, fun k hk hm => by
    have := hb.size
    exact (hg.block k (by omega) (fun e => hm (by rw [← e]; simp))).trans (hb.block k hk)⟩
/-- The document's kernel, and a row of states beside it. -/
structure RSt (w wr : World) (p : PD) (vc vs vw : Value) (a : KW) (B r t : Nat) (v : Value) : Prop where
  R : RK wr w.heap.size p vc vs vw (kT p t) a
  own : wr.ownsRow B 46 8 v (t + 1) (stCells (statesK p t r))
  ap : ∀ g, v.ownBlock = some g → g ∉ KF a
  below : Below w.heap.size w wr
  B1 : a.b1 ≤ B
  B2 : B ≤ wr.heap.size
set_option maxRecDepth 100000 in
set_option maxHeartbeats 8000000 in
theorem rstates_any (p : PD) (vc vs vw : Value) (n r : Nat) (w : World) (hp : plchk p = 0) (hP : Pln w vc vs vw p) (hn : n ≤ 2000) (hr : r < p.code.length) :
    Calls Tryz.prog 17 #[plV vc p.ticks vs vw, .int .i64 n, .int .i64 r] w fun e w' => ∃ v, e = .returned v ∧ StL w' v (statesK p n r) ∧ Below w.heap.size w w' := by
  obtain ⟨jj, hj, hy0, hy1, hy2⟩ := info_parts infoSt
  obtain ⟨ca, cc, rfl⟩ := hP.code.form
  obtain ⟨sa, sc, rfl⟩ := hP.spans.form
  obtain ⟨wa, wc', rfl⟩ := hP.wires.form
  have hA : Below w.heap.size w (w.alloc (.cells #[.slice ca p.code.length cc, .int .i64 p.ticks, .slice sa p.spans.length sc, .slice wa p.wires.length wc'] 26)) := (Below.refl _ _).alloc (Nat.le_refl _) _
  have hN := newkernel_any p _ _ _ _ hp (hP.all hA)
  unfold plV at hN ⊢
  have HP : Hid (Pln (w.alloc (.cells #[.slice ca p.code.length cc, .int .i64 p.ticks, .slice sa p.spans.length sc, .slice wa p.wires.length wc'] 26)) (.slice ca p.code.length cc) (.slice sa p.spans.length sc) (.slice wa p.wires.length wc') p) := hP.all hA
  have hgs : ∀ t, ∃ s, (kT p t).rooms[r]? = some s ∧ (kT p t).rooms.getD r stNew = s := fun t => by
    have hlt : r < (kT p t).rooms.length := by rw [(kT_ok hp t).rl]; exact hr
    exact ⟨_, List.getElem?_eq_getElem hlt, by simp [List.getD, hlt]⟩
  have HGs : Hid (∀ t, ∃ s, (kT p t).rooms[r]? = some s ∧ (kT p t).rooms.getD r stNew = s) := hgs
  have hri : (r : Int) < (p.code.length : Int) := by omega
  clear hP hgs
  have HN : Hid (Calls Tryz.prog 8 #[.agg #[.slice ca p.code.length cc, .int .i64 p.ticks, .slice sa p.spans.length sc, .slice wa p.wires.length wc']] (w.alloc (.cells #[.slice ca p.code.length cc, .int .i64 p.ticks, .slice sa p.spans.length sc, .slice wa p.wires.length wc'] 26)) fun e w' => ∃ a : KW, e = .returned (.pointer (some ⟨a.kb, 0, none⟩)) ∧ (w.alloc (.cells #[.slice ca p.code.length cc, .int .i64 p.ticks, .slice sa p.spans.length sc, .slice wa p.wires.length wc'] 26)).heap.size ≤ a.lr ∧ RK w' (w.alloc (.cells #[.slice ca p.code.length cc, .int .i64 p.ticks, .slice sa p.spans.length sc, .slice wa p.wires.length wc'] 26)).heap.size p (.slice ca p.code.length cc) (.slice sa p.spans.length sc) (.slice wa p.wires.length wc') (newK p) a ∧ Below (w.alloc (.cells #[.slice ca p.code.length cc, .int .i64 p.ticks, .slice sa p.spans.length sc, .slice wa p.wires.length wc'] 26)).heap.size (w.alloc (.cells #[.slice ca p.code.length cc, .int .i64 p.ticks, .slice sa p.spans.length sc, .slice wa p.wires.length wc'] 26)) w') := hN
  clear hN
  go_enter Tryz.func17, Tryz.ntmps17
  go_upto_region 2 with (go_at_call 8; refine HN.out.mono ?_; rintro e w1 ⟨a, rfl, _, hR, b1⟩)
  clear HN
  generalize w.alloc (.cells #[.slice ca p.code.length cc, .int .i64 p.ticks, .slice sa p.spans.length sc, .slice wa p.wires.length wc'] 26) = W0 at *
  obtain ⟨s0, hs0, hg0⟩ := HGs.out 0
  have k4 := hR.c4
  have hrl : (newK p).rooms.length = p.code.length := by simp [newK]
  rw [hrl] at k4
  obtain ⟨q0, q1, q2, q3, q4, q5, q6, q7⟩ := hR.rooms r s0 hs0
  have HB1 : Hid (a.b1 ≤ w1.heap.size) := hR.le
  go_upto_region 3 with fail
  have hb1A : Below w1.heap.size w1 (w1.alloc (.cells #[.int .i64 s0.p, .int .i64 (s0.c 0), .int .i64 (s0.c 1), .int .i64 (s0.c 2), .int .i64 (s0.c 3), .int .i64 (s0.c 4), .int .i64 (s0.c 5), .bool s0.f] 46)) := (Below.refl _ _).alloc (Nat.le_refl _) _
  have hst : RSt W0 (w1.alloc (.cells #[.int .i64 s0.p, .int .i64 (s0.c 0), .int .i64 (s0.c 1), .int .i64 (s0.c 2), .int .i64 (s0.c 3), .int .i64 (s0.c 4), .int .i64 (s0.c 5), .bool s0.f] 46)) p (.slice ca p.code.length cc) (.slice sa p.spans.length sc) (.slice wa p.wires.length wc') a w1.heap.size r 0 (.slice (some ⟨w1.heap.size, 0, none⟩) 1 1) := by
    refine ⟨hR.all hb1A, ⟨?_, Or.inr ⟨w1.heap.size, 1, _, rfl, Nat.le_refl _, World.alloc_heap_new _ _, Nat.le_refl _, by unfold maxLen; omega, rfl, ?_⟩⟩, fun g hg hm => ?_, b1.trans (hb1A.mono b1.size), hR.le, hb1A.size⟩
    · rw [statesK_zero]
      simp [stCells]
    · rw [statesK_zero]
      have : (newK p).rooms.getD r stNew = s0 := hg0
      rw [this]
      simp [stCells]
    · simp only [Value.ownBlock, Option.some.injEq] at hg
      subst hg
      have := hR.flt _ hm
      omega
  clear hR k4 q0 q1 q2 q3 q4 q5 q6 q7 hb1A
  go_wp2
  go_loopw [8, 9] (fun v i wr => ∃ (t : Nat) (us : List Value), t ≤ n ∧ i = .int .i64 t ∧ RSt W0 wr p (.slice ca p.code.length cc) (.slice sa p.spans.length sc) (.slice wa p.wires.length wc') { a with us := us } w1.heap.size r t v) (fun _ i _ => n - (intOf i).toNat)
  case atStart => exact ⟨0, a.us, Nat.zero_le _, rfl, hst⟩
  case round =>
    clear hst
    obtain ⟨t, us, htn, rfl, hst⟩ := hrel
    obtain ⟨vg, vk, rfl⟩ := own_succ hst.own
    by_cases htl : t < n
    · have hti : (t : Int) < (n : Int) := by omega
      have HT : Hid (Calls Tryz.prog 12 #[.pointer (some ⟨a.kb, 0, none⟩)] wr fun e w' => ∃ ev us', e = .returned ev ∧ RK w' W0.heap.size p (.slice ca p.code.length cc) (.slice sa p.spans.length sc) (.slice wa p.wires.length wc') (kT p (t + 1)) { a with us := us' } ∧ w'.ownsRow w1.heap.size 46 8 (.slice (some ⟨vg, 0, none⟩) (t + 1) vk) (t + 1) (stCells (statesK p t r)) ∧ vg ∉ KF { a with us := us' } ∧ Below W0.heap.size W0 w' ∧ w1.heap.size ≤ w'.heap.size) := by
        refine (reftick_any p _ _ sa sc (kT p t) { a with us := us } W0.heap.size wr hp (kT_ok hp t) (by rw [kT_time]; omega) hst.R W0 rfl hst.below HP.out).mono ?_
        rintro e w' ⟨rfl, ⟨us', hR', hus⟩, tk⟩
        have hvlt := (hst.own.lt vg rfl).2
        have hnot : vg ∉ KW.m { a with us := us } := fun hm => hst.ap vg rfl (KF.m vg hm)
        have hkf := KF.us (a := { a with us := us }) hus
        refine ⟨_, us', rfl, hR', own_block hst.own (fun g hg => ?_), fun hm => ?_, hst.below.trans (tk.below hst.R.mge hst.below.size), Nat.le_trans hst.B2 tk.size⟩
        · simp only [Value.ownBlock, Option.some.injEq] at hg
          subst hg
          exact tk.block _ hvlt hnot
        · rcases hkf vg hm with h1 | h1
          · exact hst.ap vg rfl h1
          · omega
      clear hst
      obtain ⟨s, hs, hgs⟩ := HGs.out (t + 1)
      go_upto_region 7 with (go_at_call 12; refine HT.out.mono ?_; rintro e w3 ⟨ev, us', rfl, hR3, own3, ap3, bl3, sz3⟩)
      have k4 := hR3.c4
      rw [(kT_ok hp (t + 1)).rl] at k4
      obtain ⟨q0, q1, q2, q3, q4, q5, q6, q7⟩ := hR3.rooms r s hs
      have HR3 : Hid (RK w3 W0.heap.size p (.slice ca p.code.length cc) (.slice sa p.spans.length sc) (.slice wa p.wires.length wc') (kT p (t + 1)) { a with us := us' }) := hR3
      clear hR3 HT
      go_wp2_with (at_builtin; refine wpList_append_at _ rfl _ _ 47 rfl w1.heap.size 46 jj _ 8 64 Tryz.underlying47 hj hy0 hy1 hy2 rfl (by decide) _ _ _ rfl (own3.alloc _) ⟨w3.heap.size, 0, none⟩ 1 1 [.int .i64 s.p, .int .i64 (s.c 0), .int .i64 (s.c 1), .int .i64 (s.c 2), .int .i64 (s.c 3), .int .i64 (s.c 4), .int .i64 (s.c 5), .bool s.f] rfl rfl ?c1A ?c2A ?c3A ?c4A ?c5A ?_)
      try (case c1A => exact st_new rfl s _)
      case c2A => first | exact st_one s | exact ⟨rfl, rfl, rfl, rfl, rfl, rfl, rfl, rfl⟩
      case c3A => unfold maxLen; omega
      case c4A => omega
      case c5A => first | omega | (simp; omega)
      intro v1 w8 own8 hg8 hnw8
      have hb3 : Below w3.heap.size w3 (w3.alloc (.cells #[.int .i64 s.p, .int .i64 (s.c 0), .int .i64 (s.c 1), .int .i64 (s.c 2), .int .i64 (s.c 3), .int .i64 (s.c 4), .int .i64 (s.c 5), .bool s.f] 46)) := (Below.refl _ _).alloc (Nat.le_refl _) _
      have HST : Hid (RSt W0 w8 p (.slice ca p.code.length cc) (.slice sa p.spans.length sc) (.slice wa p.wires.length wc') { a with us := us' } w1.heap.size r (t + 1) v1) := by
        have tk := KTouch.row hb3 hg8
        have hm1 : ∀ m ∈ (Value.slice (some ⟨vg, 0, none⟩) (t + 1) vk).ownBlock.toList, m = vg := fun m hm => by simpa [Value.ownBlock] using hm
        refine ⟨HR3.out.frame tk (fun m hm => by rw [hm1 m hm]; exact ap3), ?_, fun g hg hm => ?_, bl3.trans (tk.below (fun m hm => ?_) bl3.size), ?_, Nat.le_trans sz3 tk.size⟩
        · rw [statesK_succ, stCells_snoc, hgs]
          exact own8
        · rcases hnw8 g hg with h1 | h1
          · simp only [Value.ownBlock, Option.some.injEq] at h1
            subst h1
            exact ap3 hm
          · have := HR3.out.flt g hm
            try simp at h1
            omega
        · rw [hm1 m hm]
          have := (own3.lt vg rfl).1
          have := HR3.out.le
          have := HR3.out.lt.1
          have := HR3.out.ge.1
          have h5 := b1.size
          omega
        · show a.b1 ≤ _
          exact HB1.out
      obtain ⟨g8, cap8, rfl⟩ := own_succ own8
      clear own8 hg8 hnw8 own3 q0 q1 q2 q3 q4 q5 q6 q7 k4 hb3
      go_wp2
      go_roundw
      case rel => exact ⟨t + 1, us', by omega, by go_num, HST.out⟩
      case measure => simp [intOf]; omega
    · obtain rfl : t = n := by omega
      have hti : decide ((t : Int) < (t : Int)) = false := decide_eq_false (by omega)
      have htn' : decide (t < t) = false := decide_eq_false (by omega)
      have HS : Hid (StL wr (.slice (some ⟨vg, 0, none⟩) (t + 1) vk) (statesK p t r)) := StL.own (by rw [statesK_len]; exact hst.own)
      have HB' : Hid (Below w.heap.size w wr) := hA.trans (hst.below.mono hA.size)
      clear hst
      go_wp2
      go_ret
      exact ⟨_, rfl, HS.out, HB'.out⟩
end Go.Proofs.YtfconbblnmbnpadGreatDoor
namespace Go.Proofs.YtfconbblnmbnpadGreatDoor
open Go.RowKit

/-- Run: the states of a room of a new kernel. -/
def SgtRun (G : World → Prop) : Prop := ∀ (p : PD) (vc vs vw : Value) (n r : Int) (W : World), G W → Pln W vc vs vw p → Calls Tryz.prog 18 #[plV vc p.ticks vs vw, .int .i64 n, .int .i64 r] W fun e w' => ∃ v, e = .returned (.tuple #[v, wErr (runE p n r)]) ∧ StL w' v (if runE p n r = 0 then statesK p n.toNat r.toNat else []) ∧ Below W.heap.size W w'
end Go.Proofs.YtfconbblnmbnpadGreatDoor
namespace Go.Proofs.YtfconbblnmbnpadGreatDoor
open Go.RowKit

/-- Of: what a room sees of a kernel of a plan. -/
def SgtOf {G : World → Prop} (C : KerC G) : Prop := ∀ {w0 W p vc vs vw k kb F} (ic is iw : Value) (r : Int), G w0 → C.K w0 W p vc vs vw k kb F → KOk p k → plchk p = 0 → Pln W ic is iw p → Calls Tryz.prog 21 #[.pointer (some ⟨kb, 0, none⟩), plV ic p.ticks is iw, .int .i64 r] W fun e w' => ∃ v, e = .returned (.tuple #[stA (roomK k r), v, wErr (errB (noRoom k r))]) ∧ HdL w' v (if noRoom k r = true then [] else seesK k r) ∧ Below W.heap.size W w'
end Go.Proofs.YtfconbblnmbnpadGreatDoor
namespace Go.Proofs.YtfconbblnmbnpadGreatDoor
open Go.RowKit

theorem sees_takeG (ls : List LnD) (r : Int) (n : Nat) (l : LnD) (h : ls[n]? = some l) : (((ls.take (n + 1)).filter (atR r)).map fun l => (l.xs, l.ls)) = (((ls.take n).filter (atR r)).map fun l => (l.xs, l.ls)) ++ (if atR r l = true then [(l.xs, l.ls)] else []) := by
  rw [List.take_add_one, h, Option.toList_some, List.filter_append, List.map_append]
  cases hb : atR r l <;> simp [hb]
/-- What is seen of the first wires. -/
def seesN (k : KD) (r : Int) (n : Nat) : List (List Int × Int) := ((k.lines.take n).filter (atR r)).map fun l => (l.xs, l.ls)
theorem seesN_len (k : KD) (r : Int) (n : Nat) : (seesN k r n).length ≤ n := by
  unfold seesN
  rw [List.length_map]
  exact Nat.le_trans (List.length_filter_le _ _) (by rw [List.length_take]; omega)
/-- A row of what wires hold, all of it laid since. -/
def HdF (B : Nat) (w : World) (v : Value) (xs : List (List Int × Int)) : Prop := ∃ l, HdR B w v l xs ∧ ∀ x ∈ l, ∀ g, x.1.ownBlock = some g → B ≤ g
/-- What is written lies ahead of it. -/
theorem HdF.touch {B : Nat} {W W' : World} {v : Value} {xs : List (List Int × Int)} (h : HdF B W v xs) {M : List Nat} (ht : KTouch M W W') (hM : ∀ m ∈ M, m < B) : HdF B W' v xs := by
  obtain ⟨l, h, hf⟩ := h
  refine ⟨l, ⟨own_block h.own (fun g hg => ht.block g (h.own.lt g hg).2 (fun hm => ?_)), h.len, fun i x y hx hy => ?_, fun x hx g hg => ?_⟩, hf⟩
  · have := hM g hm
    have := (h.own.lt g hg).1
    omega
  · obtain ⟨h1, h2⟩ := h.rd i x y hx hy
    refine ⟨h1.block (fun g hg he => ht.block g hg (fun hm => ?_)) ht.size, h2⟩
    have := hM g hm
    have := hf x (List.mem_of_getElem? hx) g he
    omega
  · obtain ⟨h2, h3⟩ := h.ap x hx g hg
    exact ⟨Nat.lt_of_lt_of_le h2 ht.size, h3⟩
set_option maxRecDepth 100000 in
set_option maxHeartbeats 8000000 in
theorem saround_any {G : World → Prop} (C : KerC G) (CW : KerWire C) {w0 W : World} {p : PD} {vc vs vw : Value} {k : KD} {kb : Nat} {F : List Nat} (iw : Value) (r : Int) (h : C.K w0 W p vc vs vw k kb F) (hk : KOk p k) (hp : plchk p = 0) (hW : Wrs W iw p.wires) :
    Calls Tryz.prog 39 #[.pointer (some ⟨kb, 0, none⟩), iw, .int .i64 r] W fun e w' => ∃ ao m cap, e = .returned (.tuple #[.slice ao m cap, .nilIface]) ∧ HdF W.heap.size w' (.slice ao m cap) (seesK k r) ∧ Below W.heap.size W w' := by
  obtain ⟨jj, hj, hy0, hy1, hy2⟩ := info_parts infoHd
  obtain ⟨wa, wcap, rfl⟩ := hW.form
  have H : Hid (∀ wr, Below W.heap.size W wr → C.K w0 wr p vc vs vw k kb F) := fun wr hb => C.frame h (KTouch.of (M := []) hb) (by simp)
  have HW : Hid (Wrs W (.slice wa p.wires.length wcap) p.wires) := hW
  have hw12 : p.wires.length ≤ 12 := (wschk_ok (plchk_zero hp).2.2.2.1).1
  have hll := hk.ll
  clear h hW
  go_enter Tryz.func39, Tryz.ntmps39
  go_wp2
  go_loopw [8, 15] (fun v i wr => ∃ (n : Nat) (l : List (Value × Int)), n ≤ p.wires.length ∧ i = .int .i64 n ∧ HdR W.heap.size wr v l (seesN k r n) ∧ (∀ x ∈ l, ∀ g, x.1.ownBlock = some g → W.heap.size ≤ g) ∧ Below W.heap.size W wr) (fun _ i _ => p.wires.length - (intOf i).toNat)
  case atStart => exact ⟨0, [], Nat.zero_le _, rfl, HdR.nil _ _, fun x hx => (by cases hx), Below.refl _ _⟩
  case round =>
    obtain ⟨n, l, hn, rfl, hrow, hfr0, hbw⟩ := hrel
    have HF0 : Hid (∀ x ∈ l, ∀ g, x.1.ownBlock = some g → W.heap.size ≤ g) := hfr0
    clear hfr0
    obtain ⟨vo, vn, vk, rfl⟩ := own_form hrow.own
    have hsw := hbw.size
    by_cases hnl : n < p.wires.length
    · have hni : (n : Int) < (p.wires.length : Int) := by omega
      obtain ⟨xb, xo, f, t, kd, d, rfl, hxlt, hx, c0, c1, c2, c3⟩ := HW.out.at hnl
      replace c0 := (hbw.cell (p := ⟨xb, _, none⟩) hxlt).trans c0
      replace c1 := (hbw.cell (p := ⟨xb, _, none⟩) hxlt).trans c1
      replace c2 := (hbw.cell (p := ⟨xb, _, none⟩) hxlt).trans c2
      replace c3 := (hbw.cell (p := ⟨xb, _, none⟩) hxlt).trans c3
      obtain ⟨ln, hl⟩ : ∃ ln, k.lines[n]? = some ln := ⟨_, List.getElem?_eq_getElem (by rw [hll]; exact hnl)⟩
      have hlw := (hk.lines n ln _ hl hx).w
      have HT := sees_takeG k.lines r n ln hl
      have hat : atR r ln = (decide (f = r) || decide (t = r)) := by
        unfold atR
        rw [hlw]
      rw [hat] at HT
      have HRw : Hid (HdR W.heap.size wr (.slice vo vn vk) l (seesN k r n)) := hrow
      have hx8 := World.new_ne wr ⟨xb, _, none⟩ c0
      by_cases hor : f = r ∨ (f ≠ r ∧ t = r)
      · have HX : Hid (seesN k r (n + 1) = seesN k r n ++ [(ln.xs, ln.ls)]) := by
          show _ = _
          unfold seesN
          rw [HT, if_pos]
          rcases hor with e | ⟨_, e⟩ <;> simp [e]
        have hl12 : l.length + 1 ≤ 12 := by
          have h1 := hrow.len
          have h2 := seesN_len k r n
          omega
        have hno : noLine k n = false := by
          unfold noLine
          rw [hll, Bool.or_eq_false_iff]
          exact ⟨decide_eq_false (by omega), decide_eq_false (by omega)⟩
        have hlk : lineK k n = ln := by
          unfold lineK
          rw [if_neg (by rw [hno]; decide), Int.toNat_natCast]
          simp [List.getD, hl]
        have HC : Hid (∀ WW, Below wr.heap.size wr WW → Calls Tryz.prog 14 #[.pointer (some ⟨kb, 0, none⟩), .int .i64 n] WW fun e w' => ∃ ao m cu, e = .returned (.tuple #[.agg #[.slice ao m cu, .int .i64 ln.ls], .nilIface]) ∧ Rd w' (.slice ao m cu) ln.xs ∧ (∀ g, (Value.slice ao m cu).ownBlock = some g → WW.heap.size ≤ g ∧ g < w'.heap.size) ∧ Below WW.heap.size WW w') := fun WW hb => by
          have := CW n (H.out WW (hbw.trans (hb.mono hsw))) hk hp
          rw [hlk, hno] at this
          refine this.mono ?_
          rintro e w' ⟨u, rfl, h1, h2, h3⟩
          have hf : ∃ ao m cu, u = .slice ao m cu := by
            rcases h1 with ⟨_, ao, cu, h4⟩ | ⟨g, off, cu, h4, _⟩
            · exact ⟨_, _, _, h4⟩
            · exact ⟨_, _, _, h4⟩
          obtain ⟨ao, m, cu, rfl⟩ := hf
          exact ⟨ao, m, cu, rfl, h1, h2, h3⟩
        clear HT hrow hat hl hx hlw hno hlk
        go_upto_region 5 with fail
        have hA : Below wr.heap.size wr (wr.alloc (.cells #[.int .i64 f, .int .i64 t, .int .i64 kd, .int .i64 d] 56)) := (Below.refl _ _).alloc (Nat.le_refl _) _
        go_cut [15, 29] from 15 to 43 (fun s15 s29 wx => s15 = .int .i64 n ∧ s29 = .bool false ∧ Below wr.heap.size wr wx)
        case first =>
          rcases hor with e | ⟨e1, e2⟩
          · have hq : (f != r) = false := by simp [e]
            go_wp2
            go_meet
            case rel => exact ⟨rfl, rfl, (Below.refl _ _).alloc (Nat.le_refl _) _⟩
          · have hq : (f != r) = true := by simpa using e1
            have hq2 : (t != r) = false := by simp [e2]
            go_wp2
            go_meet
            case rel => exact ⟨rfl, rfl, (Below.refl _ _).alloc (Nat.le_refl _) _⟩
        case rest =>
          clear hA hor c0 c1 c2 c3
          obtain ⟨rfl, rfl, hbc⟩ := hcut
          go_upto_region 9 with (go_at_call 14; refine (HC.out _ hbc).mono ?_; rintro e w2 ⟨ao, m, cu, rfl, hrd, hfr, b2⟩)
          have hB1 : Below wr.heap.size wr (w2.alloc (.cells #[.slice ao m cu, .int .i64 ln.ls] 54)) := (hbc.trans (b2.mono hbc.size)).alloc (Nat.le_trans hbc.size b2.size) _
          have hrow3 := HRw.out.all hB1
          have own3 := hrow3.own
          have hs2 := b2.size
          have hsc := hbc.size
          have HFin : Hid (∀ (v1 : Value) (w8 : World), w8.ownsRow W.heap.size 54 2 v1 (l.length + 1) (hdCells l ++ [.slice ao m cu, .int .i64 ln.ls]) → ((w2.alloc (.cells #[.slice ao m cu, .int .i64 ln.ls] 54)).alloc (.cells #[.slice ao m cu, .int .i64 ln.ls] 54)).grownBy w8 (Value.slice vo vn vk).ownBlock → (∀ g, v1.ownBlock = some g → (Value.slice vo vn vk).ownBlock = some g ∨ w2.heap.size + 2 ≤ g) → HdR W.heap.size w8 v1 (l ++ [(.slice ao m cu, ln.ls)]) (seesN k r (n + 1)) ∧ Below W.heap.size W w8) := fun v1 w8 o1 o2 o3 => by
            rw [HX.out]
            have hrd' : Rd (w2.alloc (.cells #[.slice ao m cu, .int .i64 ln.ls] 54)) (.slice ao m cu) ln.xs := hrd.all ((Below.refl _ _).alloc (Nat.le_refl _) _)
            refine ⟨hrow3.more (y := (ln.xs, ln.ls)) hrd' (fun g hg => ⟨?_, fun e => ?_⟩) o2 o1 (fun g hg => ?_), ?_⟩
            · have := (hfr g hg).2
              simp
              omega
            · have := (HRw.out.own.lt g e).2
              have := (hfr g hg).1
              omega
            · have := o3 g hg
              simpa using this
            · exact ((hbw.trans (hB1.mono hsw)).alloc (by simp; omega) _).grown o2 (by simp; omega) (fun j hj => (HRw.out.own.lt j hj).1)
          have HF1 : Hid (∀ x ∈ l ++ [(Value.slice ao m cu, ln.ls)], ∀ g, x.1.ownBlock = some g → W.heap.size ≤ g) := fun x hx g hg => by
            rcases List.mem_append.1 hx with h1 | h1
            · exact HF0.out x h1 g hg
            · rw [List.mem_singleton] at h1
              subst h1
              have := (hfr g hg).1
              omega
          clear hB1 hrow3 hrd hfr b2
          go_wp2_with (at_builtin; refine wpList_append_at _ rfl _ _ 69 rfl W.heap.size 54 jj _ 2 32 Tryz.underlying69 hj hy0 hy1 hy2 rfl (by decide) _ _ _ rfl (own3.alloc _) ⟨w2.heap.size + 1, 0, none⟩ 1 1 [.slice ao m cu, .int .i64 ln.ls] rfl rfl ?c1A ?c2A ?c3A ?c4A ?c5A ?_)
          case c1A => exact hd_new (by simp) _ _ _
          case c2A => intro u hu; simp at hu; rcases hu with rfl | rfl <;> rfl
          case c3A => unfold maxLen; omega
          case c4A => omega
          case c5A => simp; omega
          intro v1 w8 own8 hg8 hnw8
          have HQ := HFin.out v1 w8 own8 hg8 (fun g hg => by have := hnw8 g hg; simpa using this)
          obtain ⟨g8, cap8, rfl⟩ := own_succ own8
          have HQ1 : Hid (HdR W.heap.size w8 (.slice (some ⟨g8, 0, none⟩) (l.length + 1) cap8) (l ++ [(.slice ao m cu, ln.ls)]) (seesN k r (n + 1))) := HQ.1
          have HQ2 : Hid (Below W.heap.size W w8) := HQ.2
          clear own8 hg8 hnw8 own3 HQ HFin
          go_wp2
          go_roundw
          case rel => exact ⟨n + 1, _, by omega, by go_num, HQ1.out, HF1.out, HQ2.out⟩
          case measure => simp [intOf]; omega
      · have hf1 : f ≠ r := fun e => hor (Or.inl e)
        have ht1 : t ≠ r := fun e => hor (Or.inr ⟨hf1, e⟩)
        have HX : Hid (seesN k r (n + 1) = seesN k r n) := by
          show _ = _
          unfold seesN
          rw [HT, if_neg (by simp [hf1, ht1]), List.append_nil]
        have hq1 : (f != r) = true := by simpa using hf1
        have hq2 : (t != r) = true := by simpa using ht1
        clear HT hrow hat hl hx hlw hor
        go_wp2
        go_roundw
        case rel => exact ⟨n + 1, l, by omega, by go_num, by rw [HX.out]; exact HRw.out.all ((Below.refl _ _).alloc (Nat.le_refl _) _), HF0.out, hbw.alloc hsw _⟩
        case measure => simp [intOf]; omega
    · obtain rfl : n = p.wires.length := by omega
      have hq : decide ((p.wires.length : Int) < (p.wires.length : Int)) = false := decide_eq_false (by omega)
      have hq' : decide (p.wires.length < p.wires.length) = false := decide_eq_false (by omega)
      have HRw : Hid (HdF W.heap.size wr (.slice vo vn vk) (seesK k r)) := by
        refine ⟨l, ?_, HF0.out⟩
        have := hrow
        unfold seesN at this
        rw [← hll, List.take_length] at this
        exact this
      clear hrow
      go_wp2
      go_ret2
      exact ⟨_, _, _, rfl, HRw.out, hbw⟩
end Go.Proofs.YtfconbblnmbnpadGreatDoor
namespace Go.Proofs.YtfconbblnmbnpadGreatDoor
open Go.RowKit

theorem below8 {B : Nat} {w w' : World} (h : Below B w w') (b : Nat) (hb : B ≤ b) (x0 x1 x2 x3 x4 x5 x6 x7 : Value) : Below B w ((((((((w'.setCell ⟨b, 0, none⟩ x0).setCell ⟨b, 1, none⟩ x1).setCell ⟨b, 2, none⟩ x2).setCell ⟨b, 3, none⟩ x3).setCell ⟨b, 4, none⟩ x4).setCell ⟨b, 5, none⟩ x5).setCell ⟨b, 6, none⟩ x6).setCell ⟨b, 7, none⟩ x7) :=
  (((((((h.setCell (p := ⟨b, 0, none⟩) hb x0).setCell (p := ⟨b, 1, none⟩) hb x1).setCell (p := ⟨b, 2, none⟩) hb x2).setCell (p := ⟨b, 3, none⟩) hb x3).setCell (p := ⟨b, 4, none⟩) hb x4).setCell (p := ⟨b, 5, none⟩) hb x5).setCell (p := ⟨b, 6, none⟩) hb x6).setCell (p := ⟨b, 7, none⟩) hb x7
theorem touch8 (w : World) (b : Nat) (x0 x1 x2 x3 x4 x5 x6 x7 : Value) : KTouch [b] w ((((((((w.setCell ⟨b, 0, none⟩ x0).setCell ⟨b, 1, none⟩ x1).setCell ⟨b, 2, none⟩ x2).setCell ⟨b, 3, none⟩ x3).setCell ⟨b, 4, none⟩ x4).setCell ⟨b, 5, none⟩ x5).setCell ⟨b, 6, none⟩ x6).setCell ⟨b, 7, none⟩ x7) :=
  have hm : b ∈ [b] := by simp
  (((((((KTouch.set w hm 0 x0).trans (KTouch.set _ hm 1 x1)).trans (KTouch.set _ hm 2 x2)).trans (KTouch.set _ hm 3 x3)).trans (KTouch.set _ hm 4 x4)).trans (KTouch.set _ hm 5 x5)).trans (KTouch.set _ hm 6 x6)).trans (KTouch.set _ hm 7 x7)
set_option maxRecDepth 100000 in
set_option maxHeartbeats 2000000 in
theorem sgt_of {G : World → Prop} (C : KerC G) (CW : KerWire C) (hF : ∀ w, G w → Forms w) : SgtOf C := fun {w0 W p vc vs vw k kb F} ic is iw r hG h hk hp hP => by
  have hfw : Forms W := hF W (C.all _ _ hG (C.since h))
  obtain ⟨ca, cc, rfl⟩ := hP.code.form
  obtain ⟨sa, sc, rfl⟩ := hP.spans.form
  obtain ⟨wa, wc', rfl⟩ := hP.wires.form
  have hx0 := Bx.first W (.slice ca p.code.length cc) p.ticks (.slice sa p.spans.length sc) (.slice wa p.wires.length wc')
  have hA0 : Below (W.heap.size + 1) (W.alloc (.cells #[.slice ca p.code.length cc, .int .i64 p.ticks, .slice sa p.spans.length sc, .slice wa p.wires.length wc'] 26)) ((W.alloc (.cells #[.slice ca p.code.length cc, .int .i64 p.ticks, .slice sa p.spans.length sc, .slice wa p.wires.length wc'] 26)).alloc (.cells #[.int .i64 0, .int .i64 0, .int .i64 0, .int .i64 0, .int .i64 0, .int .i64 0, .int .i64 0, .bool false] 46)) := (Below.refl _ _).alloc (by simp) _
  generalize hWA : (W.alloc (.cells #[.slice ca p.code.length cc, .int .i64 p.ticks, .slice sa p.spans.length sc, .slice wa p.wires.length wc'] 26)).alloc (.cells #[.int .i64 0, .int .i64 0, .int .i64 0, .int .i64 0, .int .i64 0, .int .i64 0, .int .i64 0, .bool false] 46) = WA at hA0
  have hx1 : Bx W WA (.slice ca p.code.length cc) p.ticks (.slice sa p.spans.length sc) (.slice wa p.wires.length wc') := hA0
  have hsA : WA.heap.size = W.heap.size + 2 := by rw [← hWA]; simp
  have q1 : Calls Tryz.prog 27 #[.agg #[.slice ca p.code.length cc, .int .i64 p.ticks, .slice sa p.spans.length sc, .slice wa p.wires.length wc']] WA fun e w' => e = .returned .nilIface ∧ Below WA.heap.size WA w' := by
    have := plcheck_any p _ _ _ _ (hfw.all hx1.below) (hP.all hx1.below)
    rw [hp] at this
    exact this
  have HS : Hid (∀ W', Below W.heap.size W W' → Calls Tryz.prog 13 #[.pointer (some ⟨kb, 0, none⟩), .int .i64 r] W' fun e w' => e = .returned (.tuple #[stA (roomK k r), wErr (errB (noRoom k r))]) ∧ Below W'.heap.size W' w') := fun W' hb => C.state r (C.frame h (KTouch.of (M := []) hb) (by simp)) hk hp
  have HAr : Hid (∀ W', Below W.heap.size W W' → Calls Tryz.prog 39 #[.pointer (some ⟨kb, 0, none⟩), .slice wa p.wires.length wc', .int .i64 r] W' fun e w' => ∃ ao m cap, e = .returned (.tuple #[.slice ao m cap, .nilIface]) ∧ HdF W'.heap.size w' (.slice ao m cap) (seesK k r) ∧ Below W'.heap.size W' w') := fun W' hb => saround_any C CW (.slice wa p.wires.length wc') r (C.frame h (KTouch.of (M := []) hb) (by simp)) hk hp (hP.wires.all hb)
  have hrl := hk.rl
  have k0 := hx1.c0
  have k1 := hx1.c1
  have k2 := hx1.c2
  have k3 := hx1.c3
  have hlt : W.heap.size + 1 < WA.heap.size := by omega
  have HZ : Hid (∀ W', Below WA.heap.size WA W' → W'.cell? ⟨W.heap.size + 1, 0, none⟩ = some (.int .i64 0) ∧ W'.cell? ⟨W.heap.size + 1, 1, none⟩ = some (.int .i64 0) ∧ W'.cell? ⟨W.heap.size + 1, 2, none⟩ = some (.int .i64 0) ∧ W'.cell? ⟨W.heap.size + 1, 3, none⟩ = some (.int .i64 0) ∧ W'.cell? ⟨W.heap.size + 1, 4, none⟩ = some (.int .i64 0) ∧ W'.cell? ⟨W.heap.size + 1, 5, none⟩ = some (.int .i64 0) ∧ W'.cell? ⟨W.heap.size + 1, 6, none⟩ = some (.int .i64 0) ∧ W'.cell? ⟨W.heap.size + 1, 7, none⟩ = some (.bool false)) := fun W' hb => ⟨(hb.cell (p := ⟨W.heap.size + 1, 0, none⟩) hlt).trans (by rw [← hWA]; simp [go_sem]), (hb.cell (p := ⟨W.heap.size + 1, 1, none⟩) hlt).trans (by rw [← hWA]; simp [go_sem]), (hb.cell (p := ⟨W.heap.size + 1, 2, none⟩) hlt).trans (by rw [← hWA]; simp [go_sem]), (hb.cell (p := ⟨W.heap.size + 1, 3, none⟩) hlt).trans (by rw [← hWA]; simp [go_sem]), (hb.cell (p := ⟨W.heap.size + 1, 4, none⟩) hlt).trans (by rw [← hWA]; simp [go_sem]), (hb.cell (p := ⟨W.heap.size + 1, 5, none⟩) hlt).trans (by rw [← hWA]; simp [go_sem]), (hb.cell (p := ⟨W.heap.size + 1, 6, none⟩) hlt).trans (by rw [← hWA]; simp [go_sem]), (hb.cell (p := ⟨W.heap.size + 1, 7, none⟩) hlt).trans (by rw [← hWA]; simp [go_sem])⟩
  have HY : Hid (∀ W', Below WA.heap.size WA W' → W'.frozen? ⟨W.heap.size + 1, 0, none⟩ = false ∧ W'.frozen? ⟨W.heap.size + 1, 1, none⟩ = false ∧ W'.frozen? ⟨W.heap.size + 1, 2, none⟩ = false ∧ W'.frozen? ⟨W.heap.size + 1, 3, none⟩ = false ∧ W'.frozen? ⟨W.heap.size + 1, 4, none⟩ = false ∧ W'.frozen? ⟨W.heap.size + 1, 5, none⟩ = false ∧ W'.frozen? ⟨W.heap.size + 1, 6, none⟩ = false ∧ W'.frozen? ⟨W.heap.size + 1, 7, none⟩ = false) := fun W' hb => ⟨(hb.frozen (p := ⟨W.heap.size + 1, 0, none⟩) hlt).trans (by rw [← hWA]; simp [go_sem]), (hb.frozen (p := ⟨W.heap.size + 1, 1, none⟩) hlt).trans (by rw [← hWA]; simp [go_sem]), (hb.frozen (p := ⟨W.heap.size + 1, 2, none⟩) hlt).trans (by rw [← hWA]; simp [go_sem]), (hb.frozen (p := ⟨W.heap.size + 1, 3, none⟩) hlt).trans (by rw [← hWA]; simp [go_sem]), (hb.frozen (p := ⟨W.heap.size + 1, 4, none⟩) hlt).trans (by rw [← hWA]; simp [go_sem]), (hb.frozen (p := ⟨W.heap.size + 1, 5, none⟩) hlt).trans (by rw [← hWA]; simp [go_sem]), (hb.frozen (p := ⟨W.heap.size + 1, 6, none⟩) hlt).trans (by rw [← hWA]; simp [go_sem]), (hb.frozen (p := ⟨W.heap.size + 1, 7, none⟩) hlt).trans (by rw [← hWA]; simp [go_sem])⟩
  unfold plV
  clear hP h hG hx0 hfw hA0
  have hbA := hx1.below
  by_cases hbig : (p.code.length : Int) ≤ r
  · have hno : noRoom k r = true := by
      unfold noRoom
      rw [hrl, Bool.or_eq_true]
      exact Or.inr (decide_eq_true hbig)
    have hrk : roomK k r = stNew := by
      unfold roomK
      rw [if_pos hno]
    have hbd : decide ((p.code.length : Int) ≤ r) = true := decide_eq_true hbig
    rw [hrk, hno, if_pos rfl]
    go_enter Tryz.func21, Tryz.ntmps21
    go_upto_region 1 with fail
    clear hWA
    go_wp2_with (go_at_call 27; refine q1.mono ?_; rintro e w1 ⟨rfl, b1⟩; obtain ⟨z0, z1, z2, z3, z4, z5, z6, z7⟩ := HZ.out w1 b1; obtain ⟨y0, y1, y2, y3, y4, y5, y6, y7⟩ := HY.out w1 b1; have hx2 := hx1.step b1; replace k0 := hx2.c0; replace k1 := hx2.c1; replace k2 := hx2.c2; replace k3 := hx2.c3)
    refine bodyPost_ret (v := .tuple #[stA stNew, .slice none 0 0, wErr (errB true)]) ?_ rfl ⟨_, rfl, Or.inl ⟨rfl, _, _, rfl⟩, ?_⟩
    · simp [results, Tryz.results21, go_sem, stA, stNew, wErr, errB, z0, z1, z2, z3, z4, z5, z6, z7]
    · exact below8 hx2.below (W.heap.size + 1) (by omega) _ _ _ _ _ _ _ _
  · have hbd : decide ((p.code.length : Int) ≤ r) = false := decide_eq_false hbig
    by_cases hneg : r < 0
    · have hno : noRoom k r = true := by
        unfold noRoom
        rw [Bool.or_eq_true]
        exact Or.inl (decide_eq_true hneg)
      have hrk : roomK k r = stNew := by
        unfold roomK
        rw [if_pos hno]
      have HS' : Hid (∀ W', Below W.heap.size W W' → Calls Tryz.prog 13 #[.pointer (some ⟨kb, 0, none⟩), .int .i64 r] W' fun e w' => e = .returned (.tuple #[.agg #[.int .i64 0, .int .i64 0, .int .i64 0, .int .i64 0, .int .i64 0, .int .i64 0, .int .i64 0, .bool false], .iface 95 (.int .i64 1)]) ∧ Below W'.heap.size W' w') := fun W' hb => by
        have := HS.out W' hb
        rw [hrk, hno] at this
        exact this
      rw [hrk, hno, if_pos rfl]
      clear HS
      go_enter Tryz.func21, Tryz.ntmps21
      go_upto_region 1 with fail
      clear hWA
      go_upto_region 8 with (first
        | (go_at_call 27; refine q1.mono ?_; rintro e w1 ⟨rfl, b1⟩; clear q1; have hx2 := hx1.step b1; replace k0 := hx2.c0; replace k1 := hx2.c1; replace k2 := hx2.c2; replace k3 := hx2.c3; have q2 := HS'.out w1 hx2.below)
        | (go_at_call 13; refine q2.mono ?_; rintro e w2 ⟨rfl, b2⟩; clear q2))
      have b12 := b1.trans (b2.mono b1.size)
      have b13 : Below WA.heap.size WA (w2.alloc (.cells #[.int .i64 0, .int .i64 0, .int .i64 0, .int .i64 0, .int .i64 0, .int .i64 0, .int .i64 0, .bool false] 46)) := b12.alloc b12.size _
      generalize w2.alloc (.cells #[.int .i64 0, .int .i64 0, .int .i64 0, .int .i64 0, .int .i64 0, .int .i64 0, .int .i64 0, .bool false] 46) = w3 at b13 ⊢
      have hx3 := hx1.step b13
      obtain ⟨z0, z1, z2, z3, z4, z5, z6, z7⟩ := HZ.out w3 b13
      obtain ⟨y0, y1, y2, y3, y4, y5, y6, y7⟩ := HY.out w3 b13
      go_wp2
      refine bodyPost_ret (v := .tuple #[stA stNew, .slice none 0 0, wErr (errB true)]) ?_ rfl ⟨_, rfl, Or.inl ⟨rfl, _, _, rfl⟩, ?_⟩
      · simp [results, Tryz.results21, go_sem, stA, stNew, wErr, errB, z0, z1, z2, z3, z4, z5, z6, z7]
      · exact below8 hx3.below (W.heap.size + 1) (by omega) _ _ _ _ _ _ _ _
    · obtain ⟨m, rfl⟩ : ∃ m : Nat, r = m := ⟨r.toNat, by omega⟩
      have hno : noRoom k m = false := by
        unfold noRoom
        rw [hrl, Bool.or_eq_false_iff]
        exact ⟨decide_eq_false (by omega), decide_eq_false (by omega)⟩
      obtain ⟨s, hs⟩ : ∃ s, roomK k m = s := ⟨_, rfl⟩
      have HS' : Hid (∀ W', Below W.heap.size W W' → Calls Tryz.prog 13 #[.pointer (some ⟨kb, 0, none⟩), .int .i64 m] W' fun e w' => e = .returned (.tuple #[.agg #[.int .i64 s.p, .int .i64 (s.c 0), .int .i64 (s.c 1), .int .i64 (s.c 2), .int .i64 (s.c 3), .int .i64 (s.c 4), .int .i64 (s.c 5), .bool s.f], .nilIface]) ∧ Below W'.heap.size W' w') := fun W' hb => by
        have := HS.out W' hb
        rw [hs, hno] at this
        exact this
      rw [hs, hno, if_neg (by decide)]
      clear HS hno hs hneg
      go_enter Tryz.func21, Tryz.ntmps21
      go_upto_region 1 with fail
      clear hWA
      go_upto_region 9 with (first
        | (go_at_call 27; refine q1.mono ?_; rintro e w1 ⟨rfl, b1⟩; clear q1; have hx2 := hx1.step b1; replace k0 := hx2.c0; replace k1 := hx2.c1; replace k2 := hx2.c2; replace k3 := hx2.c3; have q2 := HS'.out w1 hx2.below)
        | (go_at_call 13; refine q2.mono ?_; rintro e w2 ⟨rfl, b2⟩; clear q2))
      have b12 := b1.trans (b2.mono b1.size)
      have hB3 : Below w2.heap.size w2 (w2.alloc (.cells #[.int .i64 s.p, .int .i64 (s.c 0), .int .i64 (s.c 1), .int .i64 (s.c 2), .int .i64 (s.c 3), .int .i64 (s.c 4), .int .i64 (s.c 5), .bool s.f] 46)) := (Below.refl _ _).alloc (Nat.le_refl _) _
      have b13 := b12.trans (hB3.mono b12.size)
      have hs0 : StC (w2.alloc (.cells #[.int .i64 s.p, .int .i64 (s.c 0), .int .i64 (s.c 1), .int .i64 (s.c 2), .int .i64 (s.c 3), .int .i64 (s.c 4), .int .i64 (s.c 5), .bool s.f] 46)) w2.heap.size 0 s := by constructor <;> simp [go_sem]
      have hs3 : w2.heap.size < (w2.alloc (.cells #[.int .i64 s.p, .int .i64 (s.c 0), .int .i64 (s.c 1), .int .i64 (s.c 2), .int .i64 (s.c 3), .int .i64 (s.c 4), .int .i64 (s.c 5), .bool s.f] 46)).heap.size := by simp
      generalize w2.alloc (.cells #[.int .i64 s.p, .int .i64 (s.c 0), .int .i64 (s.c 1), .int .i64 (s.c 2), .int .i64 (s.c 3), .int .i64 (s.c 4), .int .i64 (s.c 5), .bool s.f] 46) = w3 at hB3 b13 hs0 hs3 ⊢
      have hx3 := hx1.step b13
      replace k3 := hx3.c3
      have q3 := HAr.out w3 hx3.below
      go_wp2_with (go_at_call 39; refine q3.mono ?_; rintro e w4 ⟨ao, n, cap, rfl, hh, b4⟩; clear q3; have b14 := b13.trans (b4.mono b13.size); have hx4 := hx1.step b14; obtain ⟨z0, z1, z2, z3, z4, z5, z6, z7⟩ := HZ.out w4 b14; obtain ⟨y0, y1, y2, y3, y4, y5, y6, y7⟩ := HY.out w4 b14; obtain ⟨q0, q1, q2, q3, q4, q5, q6, q7⟩ := hs0.block (b4.block _ hs3); have hs2 := b12.size; have hne : w2.heap.size ≠ W.heap.size + 1 := by omega)
      refine bodyPost_ret (v := .tuple #[stA s, .slice ao n cap, wErr (errB false)]) ?_ rfl ⟨_, rfl, ?_, ?_⟩
      · simp [results, Tryz.results21, go_sem, stA, wErr, errB, z0, z1, z2, z3, z4, z5, z6, z7]
      · obtain ⟨l, h1, _⟩ := hh.touch (touch8 w4 (W.heap.size + 1) _ _ _ _ _ _ _ _) (fun m hm => by rw [List.mem_singleton] at hm; have := b13.size; omega)
        exact h1.hdl
      · exact below8 hx4.below (W.heap.size + 1) (by omega) _ _ _ _ _ _ _ _
end Go.Proofs.YtfconbblnmbnpadGreatDoor
namespace Go.Proofs.YtfconbblnmbnpadGreatDoor
open Go.RowKit

/-- The first of a room's states. -/
def stsK (p : PD) (t r : Nat) : List St := (List.range t).map fun i => (kT p i).rooms.getD r stNew
theorem stsK_len (p : PD) (t r : Nat) : (stsK p t r).length = t := by simp [stsK]
theorem stsK_succ (p : PD) (t r : Nat) : stsK p (t + 1) r = stsK p t r ++ [(kT p t).rooms.getD r stNew] := by
  unfold stsK
  rw [List.range_succ, List.map_append]
  rfl
theorem stsK_all (p : PD) (n r : Nat) : stsK p (n + 1) r = statesK p n r := rfl
/-- A row of the caller's own has grown. -/
theorem KTouch.rowG {w w2 wa : World} {row : Option Nat} (hb : Below w.heap.size w w2) (hg : w2.grownBy wa row) : KTouch row.toList w wa :=
  ⟨hg.os.trans hb.os, hg.tape.trans hb.tape, hg.output.trans hb.output, Nat.le_trans hb.size hg.size, fun k hk hm => by
    have := hb.size
    exact (hg.block k (by omega) (fun e => hm (by rw [← e]; simp))).trans (hb.block k hk)⟩
/-- A kernel, and a row of states beside it. -/
structure SRn {G : World → Prop} (C : KerC G) (w0 wr : World) (p : PD) (vc vs vw : Value) (kb B r t : Nat) (v : Value) (F : List Nat) : Prop where
  K : C.K w0 wr p vc vs vw (kT p t) kb F
  own : wr.ownsRow B 46 8 v t (stCells (stsK p t r))
  ap : ∀ g, v.ownBlock = some g → g ∉ F
  B1 : w0.heap.size ≤ B
  B2 : B ≤ wr.heap.size
/-- One more state, and a tick. -/
theorem SRn.more {G : World → Prop} {C : KerC G} {w0 wr w3 w8 : World} {p : PD} {vc vs vw : Value} {kb B r t : Nat} {v v' : Value} {F : List Nat} {s : St} (h : SRn C w0 wr p vc vs vw kb B r t v F) (hs : (kT p t).rooms.getD r stNew = s) (b3 : Below wr.heap.size wr w3) (hg : w3.grownBy w8 v.ownBlock)
    (own8 : w8.ownsRow B 46 8 v' (t + 1) (stCells (stsK p t r) ++ [.int .i64 s.p, .int .i64 (s.c 0), .int .i64 (s.c 1), .int .i64 (s.c 2), .int .i64 (s.c 3), .int .i64 (s.c 4), .int .i64 (s.c 5), .bool s.f])) (hnew : ∀ g, v'.ownBlock = some g → v.ownBlock = some g ∨ w3.heap.size ≤ g) (hG : G w0) (hp : plchk p = 0) (ht : t < 1000000) :
    Calls Tryz.prog 11 #[.pointer (some ⟨kb, 0, none⟩)] w8 fun e w' => ∃ a b c d, e = .returned (.agg #[.int .i64 a, .int .i64 b, .int .i64 c, .int .i64 d]) ∧ ∃ F', SRn C w0 w' p vc vs vw kb B r (t + 1) v' F' := by
  have tk := KTouch.rowG b3 hg
  have hK8 := C.frame h.K tk (fun m hm => by
    have hm' : v.ownBlock = some m := by simpa using hm
    exact ⟨h.ap m hm', Nat.le_trans h.B1 (h.own.lt m hm').1⟩)
  refine (C.tick hG hK8 hp (kT_ok hp t) (by rw [kT_time]; omega)).mono ?_
  rintro e w' ⟨rfl, F', hK', tk', hF'⟩
  have hs8 := tk.size
  have hs3 := b3.size
  have hg8 := hg.size
  have hap8 : ∀ g, v'.ownBlock = some g → g ∉ F := fun g hg' hm => by
    rcases hnew g hg' with h1 | h1
    · exact h.ap g h1 hm
    · have := (C.ge h.K g hm).2
      omega
  refine ⟨_, _, _, _, rfl, F', hK', ?_, fun g hg' hm => ?_, h.B1, Nat.le_trans h.B2 (Nat.le_trans hs8 tk'.size)⟩
  · rw [stsK_succ, stCells_snoc, hs]
    exact own_block own8 (fun g hg' => tk'.block g (own8.lt g hg').2 (hap8 g hg'))
  · rcases hF' g hm with h1 | h1
    · exact hap8 g hg' h1
    · have := (own8.lt g hg').2
      omega
set_option maxRecDepth 100000 in
set_option maxHeartbeats 8000000 in
theorem srun_wrong {G : World → Prop} (C : KerC G) (p : PD) (vc vs vw : Value) (n r : Int) (W : World) (hG : G W) (hP : Pln W vc vs vw p) (hp : plchk p ≠ 0) :
    Calls Tryz.prog 18 #[plV vc p.ticks vs vw, .int .i64 n, .int .i64 r] W fun e w' => e = .returned (.tuple #[.slice none 0 0, wErr (plchk p)]) ∧ Below W.heap.size W w' := by
  obtain ⟨ca, cc, rfl⟩ := hP.code.form
  obtain ⟨sa, sc, rfl⟩ := hP.spans.form
  obtain ⟨wa, wc', rfl⟩ := hP.wires.form
  have hx0 := Bx.first W (.slice ca p.code.length cc) p.ticks (.slice sa p.spans.length sc) (.slice wa p.wires.length wc')
  have q1 := C.no p _ _ _ _ (C.all _ _ hG hx0.below) (hP.all hx0.below) hp
  rw [wErr_not hp] at q1 ⊢
  unfold plV at q1 ⊢
  have k0 := hx0.c0
  have k1 := hx0.c1
  have k2 := hx0.c2
  have k3 := hx0.c3
  clear hP hG
  generalize plchk p = z at q1 hp ⊢
  go_enter Tryz.func18, Tryz.ntmps18
  go_wp2_with (go_at_call 6; refine q1.mono ?_; rintro e w1 ⟨x, rfl, b1⟩)
  go_ret2
  exact ⟨rfl, (hx0.step b1).below⟩
set_option maxRecDepth 100000 in
set_option maxHeartbeats 8000000 in
theorem srun_n {G : World → Prop} (C : KerC G) (p : PD) (vc vs vw : Value) (n r : Int) (W : World) (hG : G W) (hP : Pln W vc vs vw p) (hp : plchk p = 0) (hn : n < 0 ∨ 2000 < n) :
    Calls Tryz.prog 18 #[plV vc p.ticks vs vw, .int .i64 n, .int .i64 r] W fun e w' => e = .returned (.tuple #[.slice none 0 0, wErr 1]) ∧ Below W.heap.size W w' := by
  obtain ⟨ca, cc, rfl⟩ := hP.code.form
  obtain ⟨sa, sc, rfl⟩ := hP.spans.form
  obtain ⟨wa, wc', rfl⟩ := hP.wires.form
  have hx0 := Bx.first W (.slice ca p.code.length cc) p.ticks (.slice sa p.spans.length sc) (.slice wa p.wires.length wc')
  have q1 : Calls Tryz.prog 6 #[.agg #[.slice ca p.code.length cc, .int .i64 p.ticks, .slice sa p.spans.length sc, .slice wa p.wires.length wc']] (W.alloc (.cells #[.slice ca p.code.length cc, .int .i64 p.ticks, .slice sa p.spans.length sc, .slice wa p.wires.length wc'] 26)) fun e w' => ∃ kb, e = .returned (.tuple #[.pointer (some ⟨kb, 0, none⟩), .nilIface]) ∧ Below W.heap.size W w' := by
    refine (C.new p _ _ _ _ (C.all _ _ hG hx0.below) (hP.all hx0.below) hp).mono ?_
    rintro e w' ⟨kb, F, rfl, hK⟩
    exact ⟨kb, rfl, hx0.below.trans ((C.since hK).mono (by simp))⟩
  unfold plV
  have k0 := hx0.c0
  have k1 := hx0.c1
  have k2 := hx0.c2
  have k3 := hx0.c3
  clear hP hG hp
  have hcase : decide (n < 0) = true ∨ (decide (n < 0) = false ∧ decide (2000 < n) = true) := by
    by_cases h : n < 0
    · exact Or.inl (decide_eq_true h)
    · exact Or.inr ⟨decide_eq_false h, decide_eq_true (hn.resolve_left h)⟩
  clear hn
  rcases hcase with h1 | ⟨h1, h2⟩
  · go_enter Tryz.func18, Tryz.ntmps18
    go_wp2_with (go_at_call 6; refine q1.mono ?_; rintro e w1 ⟨kb, rfl, b1⟩)
    go_ret2
    exact ⟨rfl, b1⟩
  · go_enter Tryz.func18, Tryz.ntmps18
    go_wp2_with (go_at_call 6; refine q1.mono ?_; rintro e w1 ⟨kb, rfl, b1⟩)
    go_ret2
    exact ⟨rfl, b1⟩
set_option maxRecDepth 100000 in
set_option maxHeartbeats 8000000 in
theorem srun_room {G : World → Prop} (C : KerC G) (p : PD) (vc vs vw : Value) (n : Nat) (r : Int) (W : World) (hG : G W) (hP : Pln W vc vs vw p) (hp : plchk p = 0) (hn : n ≤ 2000) (hr : r < 0 ∨ (p.code.length : Int) ≤ r) :
    Calls Tryz.prog 18 #[plV vc p.ticks vs vw, .int .i64 n, .int .i64 r] W fun e w' => e = .returned (.tuple #[.slice none 0 0, wErr 1]) ∧ Below W.heap.size W w' := by
  obtain ⟨ca, cc, rfl⟩ := hP.code.form
  obtain ⟨sa, sc, rfl⟩ := hP.spans.form
  obtain ⟨wa, wc', rfl⟩ := hP.wires.form
  have hx0 := Bx.first W (.slice ca p.code.length cc) p.ticks (.slice sa p.spans.length sc) (.slice wa p.wires.length wc')
  have q1 : Calls Tryz.prog 6 #[.agg #[.slice ca p.code.length cc, .int .i64 p.ticks, .slice sa p.spans.length sc, .slice wa p.wires.length wc']] (W.alloc (.cells #[.slice ca p.code.length cc, .int .i64 p.ticks, .slice sa p.spans.length sc, .slice wa p.wires.length wc'] 26)) fun e w' => ∃ kb, e = .returned (.tuple #[.pointer (some ⟨kb, 0, none⟩), .nilIface]) ∧ Below W.heap.size W w' ∧ Calls Tryz.prog 13 #[.pointer (some ⟨kb, 0, none⟩), .int .i64 r] w' fun e w2 => e = .returned (.tuple #[stA stNew, wErr 1]) ∧ Below w'.heap.size w' w2 := by
    refine (C.new p _ _ _ _ (C.all _ _ hG hx0.below) (hP.all hx0.below) hp).mono ?_
    rintro e w' ⟨kb, F, rfl, hK⟩
    have hno : noRoom (newK p) r = true := by
      have hl : (newK p).rooms.length = p.code.length := by simp [newK]
      unfold noRoom
      rw [hl, Bool.or_eq_true]
      rcases hr with h | h
      · exact Or.inl (decide_eq_true h)
      · exact Or.inr (decide_eq_true h)
    have hS := C.state r hK (kT_ok hp 0) hp
    have hrk : roomK (newK p) r = stNew := by
      unfold roomK
      rw [if_pos hno]
    rw [hrk, hno] at hS
    exact ⟨kb, rfl, hx0.below.trans ((C.since hK).mono (by simp)), hS⟩
  unfold plV
  have k0 := hx0.c0
  have k1 := hx0.c1
  have k2 := hx0.c2
  have k3 := hx0.c3
  clear hP hG hp hr
  have hn0 : decide ((n : Int) < 0) = false := decide_eq_false (by omega)
  have hn1 : decide (2000 < (n : Int)) = false := decide_eq_false (by omega)
  have hn3 : (0 : Int) < (n : Int) + 1 := by omega
  unfold stA stNew wErr at q1
  go_enter Tryz.func18, Tryz.ntmps18
  go_wp2_with (go_at_call 6; refine q1.mono ?_; rintro e w1 ⟨kb, rfl, b1, q2⟩)
  refine wp_loop_rounds 1 ?_
  rw [rounds_succ]
  go_wp2_with (go_at_call 13; refine q2.mono ?_; rintro e w2 ⟨rfl, b2⟩)
  go_ret2
  refine ⟨rfl, ?_⟩
  have hb := b1.trans (b2.mono b1.size)
  have hs := hb.size
  repeat' first | exact hb | refine Below.drew ?_ | refine Below.alloc ?_ (by first | omega | (simp; omega)) _ | refine Below.setCell ?_ (by first | omega | (simp; omega)) _
set_option maxRecDepth 100000 in
set_option maxHeartbeats 8000000 in
theorem srun_ok {G : World → Prop} (C : KerC G) (p : PD) (vc vs vw : Value) (n r : Nat) (W : World) (hG : G W) (hP : Pln W vc vs vw p) (hp : plchk p = 0) (hn : n ≤ 2000) (hr : r < p.code.length) :
    Calls Tryz.prog 18 #[plV vc p.ticks vs vw, .int .i64 n, .int .i64 r] W fun e w' => ∃ v, e = .returned (.tuple #[v, .nilIface]) ∧ StL w' v (statesK p n r) ∧ Below W.heap.size W w' := by
  obtain ⟨jj, hj, hy0, hy1, hy2⟩ := info_parts infoSt
  obtain ⟨ca, cc, rfl⟩ := hP.code.form
  obtain ⟨sa, sc, rfl⟩ := hP.spans.form
  obtain ⟨wa, wc', rfl⟩ := hP.wires.form
  have hx0 := Bx.first W (.slice ca p.code.length cc) p.ticks (.slice sa p.spans.length sc) (.slice wa p.wires.length wc')
  have HG : Hid (G (W.alloc (.cells #[.slice ca p.code.length cc, .int .i64 p.ticks, .slice sa p.spans.length sc, .slice wa p.wires.length wc'] 26))) := C.all _ _ hG hx0.below
  have hA := hx0.below
  have HN : Hid (Calls Tryz.prog 6 #[.agg #[.slice ca p.code.length cc, .int .i64 p.ticks, .slice sa p.spans.length sc, .slice wa p.wires.length wc']] (W.alloc (.cells #[.slice ca p.code.length cc, .int .i64 p.ticks, .slice sa p.spans.length sc, .slice wa p.wires.length wc'] 26)) fun e w' => ∃ kb F, e = .returned (.tuple #[.pointer (some ⟨kb, 0, none⟩), .nilIface]) ∧ C.K (W.alloc (.cells #[.slice ca p.code.length cc, .int .i64 p.ticks, .slice sa p.spans.length sc, .slice wa p.wires.length wc'] 26)) w' p (.slice ca p.code.length cc) (.slice sa p.spans.length sc) (.slice wa p.wires.length wc') (newK p) kb F) := C.new p _ _ _ _ HG.out (hP.all hx0.below) hp
  unfold plV
  have k0 := hx0.c0
  have k1 := hx0.c1
  have k2 := hx0.c2
  have k3 := hx0.c3
  have HGs : Hid (∀ t, noRoom (kT p t) r = false ∧ roomK (kT p t) r = (kT p t).rooms.getD r stNew) := fun t => by
    have hl : (kT p t).rooms.length = p.code.length := (kT_ok hp t).rl
    have hno : noRoom (kT p t) r = false := by
      unfold noRoom
      rw [hl, Bool.or_eq_false_iff]
      exact ⟨decide_eq_false (by omega), decide_eq_false (by omega)⟩
    refine ⟨hno, ?_⟩
    unfold roomK
    rw [if_neg (by rw [hno]; decide), Int.toNat_natCast]
  clear hP hG
  have hn0 : decide ((n : Int) < 0) = false := decide_eq_false (by omega)
  have hn1 : decide (2000 < (n : Int)) = false := decide_eq_false (by omega)
  go_enter Tryz.func18, Tryz.ntmps18
  go_wp2_with (go_at_call 6; refine HN.out.mono ?_; rintro e w1 ⟨kb, F, rfl, hK⟩)
  clear HN
  generalize W.alloc (.cells #[.slice ca p.code.length cc, .int .i64 p.ticks, .slice sa p.spans.length sc, .slice wa p.wires.length wc'] 26) = W0 at *
  go_loopw [10, 30] (fun v i wr => ∃ (t : Nat) (F : List Nat), t ≤ n + 1 ∧ i = .int .i64 t ∧ SRn C W0 wr p (.slice ca p.code.length cc) (.slice sa p.spans.length sc) (.slice wa p.wires.length wc') kb w1.heap.size r t v F) (fun _ i _ => n + 1 - (intOf i).toNat)
  case atStart => exact ⟨0, F, Nat.zero_le _, rfl, hK, World.ownsRow_nil _ _ _ _, fun g hg => (by cases hg), (C.since hK).size, Nat.le_refl _⟩
  case round =>
    clear hK
    obtain ⟨t, F', htn, rfl, hst⟩ := hrel
    obtain ⟨vo, vn, vk, rfl⟩ := own_form hst.own
    have hbw := C.since hst.K
    by_cases htl : t < n + 1
    · have hti : (t : Int) < (n : Int) + 1 := by omega
      obtain ⟨hno, hrk⟩ := HGs.out t
      obtain ⟨s, hs⟩ : ∃ s, (kT p t).rooms.getD r stNew = s := ⟨_, rfl⟩
      have HS : Hid ((kT p t).rooms.getD r stNew = s) := hs
      have hS := C.state r hst.K (kT_ok hp t) hp
      rw [hno, hrk, hs] at hS
      have HT : Hid (Calls Tryz.prog 13 #[.pointer (some ⟨kb, 0, none⟩), .int .i64 r] wr fun e w2 => e = .returned (.tuple #[.agg #[.int .i64 s.p, .int .i64 (s.c 0), .int .i64 (s.c 1), .int .i64 (s.c 2), .int .i64 (s.c 3), .int .i64 (s.c 4), .int .i64 (s.c 5), .bool s.f], .nilIface]) ∧ Below wr.heap.size wr w2) := hS
      have HR : Hid (SRn C W0 wr p (.slice ca p.code.length cc) (.slice sa p.spans.length sc) (.slice wa p.wires.length wc') kb w1.heap.size r t (.slice vo vn vk) F') := hst
      have hown0 := hst.own
      have hB2 := hst.B2
      clear hS hs hst hno hrk
      go_upto_region 9 with fail
      go_cut [11, 12, 30] from 30 to 47 (fun s11 s12 s30 wx => s12 = .nilIface ∧ s30 = .int .i64 t ∧ ∃ g, s11 = .pointer (some ⟨g, 0, none⟩) ∧ StC wx g 0 s ∧ Below wr.heap.size wr wx)
      case first =>
        go_wp2_with (go_at_call 13; refine HT.out.mono ?_; rintro e w2 ⟨rfl, b2⟩)
        go_meet
        case rel =>
          refine ⟨rfl, rfl, w2.heap.size, rfl, ?_, ?_⟩
          · constructor <;> simp [go_sem]
          · have hs2 := b2.size
            repeat' first | exact b2 | refine Below.drew ?_ | refine Below.alloc ?_ (by first | omega | (simp; omega)) _ | refine Below.setCell ?_ (by first | omega | (simp; omega)) _
      case rest =>
        obtain ⟨rfl, rfl, g, rfl, hsc, hbc⟩ := hcut
        obtain ⟨q0, q1, q2, q3, q4, q5, q6, q7⟩ := hsc
        have own3 := own_block hown0 (fun k hk => hbc.block k (hown0.lt k hk).2)
        have hsz := hbc.size
        clear HT hown0
        go_wp2_with (at_builtin; refine wpList_append_at _ rfl _ _ 47 rfl w1.heap.size 46 jj _ 8 64 Tryz.underlying47 hj hy0 hy1 hy2 rfl (by decide) _ _ _ rfl (own3.alloc _) ⟨wc.heap.size, 0, none⟩ 1 1 [.int .i64 s.p, .int .i64 (s.c 0), .int .i64 (s.c 1), .int .i64 (s.c 2), .int .i64 (s.c 3), .int .i64 (s.c 4), .int .i64 (s.c 5), .bool s.f] rfl rfl ?c1A ?c2A ?c3A ?c4A ?c5A ?_)
        try (case c1A => exact st_new rfl s _)
        case c2A => first | exact st_one s | exact ⟨rfl, rfl, rfl, rfl, rfl, rfl, rfl, rfl⟩
        case c3A => unfold maxLen; omega
        case c4A => omega
        case c5A => first | omega | (simp; omega)
        intro v1 w8 own8 hg8 hnw8
        have hb3 : Below wr.heap.size wr (wc.alloc (.cells #[.int .i64 s.p, .int .i64 (s.c 0), .int .i64 (s.c 1), .int .i64 (s.c 2), .int .i64 (s.c 3), .int .i64 (s.c 4), .int .i64 (s.c 5), .bool s.f] 46)) := hbc.alloc hbc.size _
        have HQ : Hid (Calls Tryz.prog 11 #[.pointer (some ⟨kb, 0, none⟩)] w8 fun e w' => ∃ a b c d, e = .returned (.agg #[.int .i64 a, .int .i64 b, .int .i64 c, .int .i64 d]) ∧ ∃ F', SRn C W0 w' p (.slice ca p.code.length cc) (.slice sa p.spans.length sc) (.slice wa p.wires.length wc') kb w1.heap.size r (t + 1) v1 F') := HR.out.more HS.out hb3 hg8 own8 (fun g hg => by have := hnw8 g hg; simpa using this) HG.out hp (by omega)
        obtain ⟨g8, cap8, rfl⟩ := own_succ own8
        clear own8 hg8 hnw8 own3 q0 q1 q2 q3 q4 q5 q6 q7 hb3
        go_wp2_with (go_at_call 11; refine HQ.out.mono ?_; rintro e w9 ⟨ea, eb, ec, ed, rfl, F9, hst9⟩)
        go_roundw
        case rel => exact ⟨t + 1, F9, by omega, by go_num, hst9⟩
        case measure => simp [intOf]; omega
    · obtain rfl : t = n + 1 := by omega
      have hti : decide (((n + 1 : Nat) : Int) < (n : Int) + 1) = false := decide_eq_false (by omega)
      have HS : Hid (StL wr (.slice vo vn vk) (statesK p n r)) := StL.own (by rw [statesK_len]; exact hst.own)
      have HB' : Hid (Below W.heap.size W wr) := hA.trans (hbw.mono hA.size)
      clear hst
      go_wp2
      go_ret2
      exact ⟨_, rfl, HS.out, HB'.out⟩
/-- Run does what the laws of sight ask of it. -/
theorem sgt_run {G : World → Prop} (C : KerC G) : SgtRun G := fun p vc vs vw n r W hG hP => by
  by_cases hp : plchk p = 0
  · by_cases hn : n < 0 ∨ 2000 < n
    · have he : runE p n r = 1 := by
        unfold runE
        rw [if_pos hp, if_pos (by omega)]
      rw [he]
      refine (srun_n C p vc vs vw n r W hG hP hp hn).mono ?_
      rintro e w' ⟨rfl, hb⟩
      exact ⟨_, rfl, Or.inl ⟨rfl, _, _, rfl⟩, hb⟩
    · obtain ⟨n, rfl⟩ : ∃ m : Nat, n = m := ⟨n.toNat, by omega⟩
      by_cases hr : r < 0 ∨ (p.code.length : Int) ≤ r
      · have he : runE p n r = 1 := by
          unfold runE
          rw [if_pos hp, if_pos (by omega)]
        rw [he]
        refine (srun_room C p vc vs vw n r W hG hP hp (by omega) hr).mono ?_
        rintro e w' ⟨rfl, hb⟩
        exact ⟨_, rfl, Or.inl ⟨rfl, _, _, rfl⟩, hb⟩
      · obtain ⟨r, rfl⟩ : ∃ m : Nat, r = m := ⟨r.toNat, by omega⟩
        have he : runE p n r = 0 := by
          unfold runE
          rw [if_pos hp, if_neg (by omega)]
        rw [he, if_pos rfl, Int.toNat_natCast, Int.toNat_natCast]
        exact srun_ok C p vc vs vw n r W hG hP hp (by omega) (by omega)
  · have he : runE p n r = plchk p := by
      unfold runE
      rw [if_neg hp]
    rw [he, if_neg hp]
    refine (srun_wrong C p vc vs vw n r W hG hP hp).mono ?_
    rintro e w' ⟨rfl, hb⟩
    exact ⟨_, rfl, Or.inl ⟨rfl, _, _, rfl⟩, hb⟩
end Go.Proofs.YtfconbblnmbnpadGreatDoor
