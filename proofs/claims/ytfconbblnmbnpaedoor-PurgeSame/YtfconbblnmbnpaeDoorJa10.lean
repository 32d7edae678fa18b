/-
  PurgeM, FlowOwn, Blk4, FlRoom, LikeM, OpsL, PgClone, PgHas, PrgE, PrgCP, PrgC, PSame, PTells0, RPurge: joined into one text.
-/
import Derived.Test.YtfconbblnmbnpaeDoorJa2
import Derived.Test.YtfconbblnmbnpaeDoorJa1
import Derived.Test.YtfconbblnmbnpaeDoorJa7
import Derived.Deep.RegionLaw
import Derived.Deep.RegionWith
import Derived.Lib.SliceRun
import Derived.Deep.CutRange
import Derived.BigQuiet
import Derived.RangeFuncNested
import Derived.RangeFuncRecord
namespace Go.Proofs.YtfconbblnmbnpaeDoor

/-- Code that rests. -/
def restC : List O3 := [(10, 0, 0)]
/-- Codes of which all but some rest. -/
def purgeC (R : Nat → Bool) : Nat → List (List O3) → List (List O3)
  | _, [] => []
  | i, c :: l => (if R i = true then c else restC) :: purgeC R (i + 1) l
def purgeP (p : PD) (R : Nat → Bool) : PD := ⟨purgeC R 0 p.code, p.ticks, p.spans, p.wires⟩
theorem purgeC_len (R : Nat → Bool) : ∀ (i : Nat) (l : List (List O3)), (purgeC R i l).length = l.length
  | _, [] => rfl
  | i, c :: l => by simp [purgeC, purgeC_len R (i + 1) l]
theorem purgeC_at (R : Nat → Bool) : ∀ (i : Nat) (l : List (List O3)) (j : Nat), (purgeC R i l)[j]? = (l[j]?).map fun c => if R (i + j) = true then c else restC
  | _, [], j => by simp [purgeC]
  | i, c :: l, 0 => by simp [purgeC]
  | i, c :: l, j + 1 => by
    simp only [purgeC, List.getElem?_cons_succ]
    rw [purgeC_at R (i + 1) l j, show i + 1 + j = i + (j + 1) by omega]
theorem rest_chk : (chk restC).2 = 0 := by decide +kernel
theorem rest_ports (ws : List W4) (i : Nat) : portsB ws i restC = false := by
  have h8 : wiresB 8 restC = [] := by decide +kernel
  have h9 : wiresB 9 restC = [] := by decide +kernel
  unfold portsB
  rw [h8, h9]
  rfl
theorem purge_codes (R : Nat → Bool) : ∀ (i : Nat) (l : List (List O3)), codesE l = 0 → codesE (purgeC R i l) = 0
  | _, [], _ => rfl
  | i, c :: l, h => by
    unfold codesE at h
    have hc : (chk c).2 = 0 ∧ codesE l = 0 := by
      split at h
      · rename_i h1
        exact ⟨h1, h⟩
      · rename_i h1
        exact absurd h h1
    have hq : (chk (if R i = true then c else restC)).2 = 0 := by
      split
      · exact hc.1
      · exact rest_chk
    show codesE ((if R i = true then c else restC) :: purgeC R (i + 1) l) = 0
    unfold codesE
    rw [if_pos hq]
    exact purge_codes R (i + 1) l hc.2
theorem purge_ports (R : Nat → Bool) (ws : List W4) : ∀ (i : Nat) (l : List (List O3)), portsAny ws i l = false → portsAny ws i (purgeC R i l) = false
  | _, [], _ => rfl
  | i, c :: l, h => by
    rw [portsAny, Bool.or_eq_false_iff] at h
    show portsAny ws i ((if R i = true then c else restC) :: purgeC R (i + 1) l) = false
    rw [portsAny, Bool.or_eq_false_iff]
    refine ⟨?_, purge_ports R ws (i + 1) l h.2⟩
    split
    · exact h.1
    · exact rest_ports ws i
/-- A plan that is right is right without those. -/
theorem purge_right {p : PD} (R : Nat → Bool) (h : plchk p = 0) : plchk (purgeP p R) = 0 := by
  obtain ⟨h1, h2, h3, h4, h5, h6, h7, h8⟩ := plchk_zero h
  unfold plchk purgeP
  simp only [purgeC_len]
  rw [if_neg (by omega), if_neg h2, if_neg (by simpa using h3), if_neg (by simpa using h4), if_neg (by rw [h5]; decide), if_neg (by rw [h6]; decide), if_neg (by simpa using purge_codes R 0 _ h7), if_neg (by rw [purge_ports R _ 0 _ h8]; decide)]
/-- Who leads to one of them is one of them. -/
def ClosedR (ws : List W4) (R : Nat → Bool) : Prop := ∀ x ∈ ws, ∀ a b : Nat, x.1 = (a : Int) → x.2.1 = (b : Int) → R b = true → R a = true
theorem way_closed (ws : List W4) (r : Nat) (hw : ∀ x ∈ ws, ∀ b : Nat, x.2.1 = (b : Int) → b < 5) : ClosedR ws (fun i => way ws i r) := fun x hx a b ha hb hr => by
  have h1 : way ws a b = true := pm_edge _ 5 a b (by
    unfold edge
    rw [Bool.or_eq_true, List.any_eq_true]
    exact Or.inr ⟨x, hx, by simp [ha, hb]⟩)
  exact way_trans ws (hw x hx b hb) h1 hr
/-- Two kernels that are the same for some rooms, and the wires that lead to them. -/
structure Sim (ws : List W4) (R : Nat → Bool) (k m : KD) : Prop where
  time : k.time = m.time
  rooms : ∀ i, R i = true → k.rooms[i]? = m.rooms[i]?
  lines : ∀ (i : Nat) x (b : Nat), ws[i]? = some x → x.2.1 = (b : Int) → R b = true → k.lines[i]? = m.lines[i]?
theorem sim_new (p : PD) (R : Nat → Bool) : Sim p.wires R (newK p) (newK (purgeP p R)) := by
  refine ⟨rfl, fun i _ => ?_, fun i x b _ _ _ => rfl⟩
  simp only [newK, purgeP, List.getElem?_map, purgeC_at]
  cases p.code[i]? <;> rfl
/-- A room that is one of them does its turn alike. -/
theorem turn_sim {p q : PD} {R : Nat → Bool} {k m : KD} {r : Nat} {c : List O3} {s : St} {o : O3} (hp : plchk p = 0) (hk : KOk p k) (hm : KOk q m) (hqw : q.wires = p.wires) (tk : Turn p k r c s o) (tm : Turn q m r c s o) (hr : R r = true) (h : Sim p.wires R k m) : Sim p.wires R (turnK p k r).1 (turnK q m r).1 := by
  have hrk : r < k.rooms.length := (List.getElem?_eq_some_iff.1 tk.hs).1
  have hrm : r < m.rooms.length := (List.getElem?_eq_some_iff.1 tm.hs).1
  have ht : k.time + 1 = m.time + 1 := by rw [h.time]
  have hrooms : ∀ (s' : St) i, R i = true → (k.rooms.set r s')[i]? = (m.rooms.set r s')[i]? := fun s' i hi => by
    by_cases hir : r = i
    · subst hir
      rw [List.getElem?_set_self hrk, List.getElem?_set_self hrm]
    · rw [List.getElem?_set_ne hir, List.getElem?_set_ne hir]
      exact h.rooms i hi
  have hop := op_wire hp tk.hc (List.mem_of_getElem? tk.ho)
  have hset : ∀ (z : Nat) (l : LnD) (i : Nat), k.lines[z]? ≠ none → m.lines[z]? ≠ none → k.lines[i]? = m.lines[i]? → (k.lines.set z l)[i]? = (m.lines.set z l)[i]? := fun z l i h1 h2 h3 => by
    by_cases hzi : z = i
    · subst hzi
      have hz1 : z < k.lines.length := by
        rcases Nat.lt_or_ge z k.lines.length with h4 | h4
        · exact h4
        · exact absurd (List.getElem?_eq_none h4) h1
      have hz2 : z < m.lines.length := by
        rcases Nat.lt_or_ge z m.lines.length with h4 | h4
        · exact h4
        · exact absurd (List.getElem?_eq_none h4) h2
      rw [List.getElem?_set_self hz1, List.getElem?_set_self hz2]
    · rw [List.getElem?_set_ne hzi, List.getElem?_set_ne hzi]
      exact h3
  cases hf : s.f with
  | true =>
    rw [turn_failed tk hf, turn_failed tm hf]
    exact ⟨ht, h.rooms, h.lines⟩
  | false =>
    by_cases h9 : o.1 = 9
    · obtain ⟨x, hx, hxr⟩ := hop.2 h9
      have hlt : o.2.2.toNat < k.lines.length := by rw [hk.ll]; exact (List.getElem?_eq_some_iff.1 hx).1
      have hl1 : k.lines[o.2.2.toNat]? = some k.lines[o.2.2.toNat] := List.getElem?_eq_getElem hlt
      have hl2 : m.lines[o.2.2.toNat]? = some k.lines[o.2.2.toNat] := by rw [← h.lines _ x r hx hxr hr]; exact hl1
      generalize k.lines[o.2.2.toNat] = l at hl1 hl2
      cases hh : (headL l).2 with
      | true =>
        rw [turn_takes tk hf h9 hl1 hh, turn_takes tm hf h9 hl2 hh]
        exact ⟨ht, hrooms _, fun i y b hy hb hR => hset _ _ i (by rw [hl1]; simp) (by rw [hl2]; simp) (h.lines i y b hy hb hR)⟩
      | false =>
        rw [turn_waits tk hf h9 hl1 hh, turn_waits tm hf h9 hl2 hh]
        exact ⟨ht, hrooms _, h.lines⟩
    · by_cases h8 : o.1 = 8
      · obtain ⟨x, hx, hxr⟩ := hop.1 h8
        have hlt : o.2.2.toNat < k.lines.length := by rw [hk.ll]; exact (List.getElem?_eq_some_iff.1 hx).1
        have hlt2 : o.2.2.toNat < m.lines.length := by rw [hm.ll, hqw]; exact (List.getElem?_eq_some_iff.1 hx).1
        have hl1 : k.lines[o.2.2.toNat]? = some k.lines[o.2.2.toNat] := List.getElem?_eq_getElem hlt
        have hl2 : m.lines[o.2.2.toNat]? = some m.lines[o.2.2.toNat] := List.getElem?_eq_getElem hlt2
        rw [turn_sends tk hf h8 hl1, turn_sends tm hf h8 hl2]
        refine ⟨ht, hrooms _, fun i y b hy hb hR => ?_⟩
        by_cases hzi : o.2.2.toNat = i
        · subst hzi
          have he := h.lines _ y b hy hb hR
          rw [hl1, hl2] at he
          rw [Option.some.inj he]
          rw [List.getElem?_set_self hlt, List.getElem?_set_self hlt2]
        · show (k.lines.set _ _)[i]? = (m.lines.set _ _)[i]?
          rw [List.getElem?_set_ne hzi, List.getElem?_set_ne hzi]
          exact h.lines i y b hy hb hR
      · rw [turn_else tk hf h8 h9, turn_else tm hf h8 h9]
        exact ⟨ht, hrooms _, h.lines⟩
/-- WHO CANNOT TELL DOES NOT MATTER: one tick. -/
theorem sim_tick {p : PD} {R : Nat → Bool} {k m : KD} (hp : plchk p = 0) (hk : KOk p k) (hm : KOk (purgeP p R) m) (hc : ClosedR p.wires R) (hw0 : ∀ x ∈ p.wires, 0 ≤ x.1) (h : Sim p.wires R k m) : Sim p.wires R (tickK p p.spans k).1 (tickK (purgeP p R) (purgeP p R).spans m).1 := by
  have hq := purge_right R hp
  have ew : whoK (purgeP p R) m = whoK p k := by
    unfold whoK purgeP
    rw [h.time]
  have htime : (tickK p p.spans k).1.time = (tickK (purgeP p R) (purgeP p R).spans m).1.time := by rw [tick_time, tick_time, h.time]
  by_cases hneg : whoK p k < 0
  · have e1 : tickK p p.spans k = (⟨k.rooms, k.lines, k.time + 1⟩, k.time, whoK p k, 0, 0) := by
      unfold whoK at hneg ⊢
      unfold tickK
      simp only
      rw [if_pos hneg]
    have e2 : (tickK (purgeP p R) (purgeP p R).spans m).1 = ⟨m.rooms, m.lines, m.time + 1⟩ := by
      have hneg2 : whoK (purgeP p R) m < 0 := by rw [ew]; exact hneg
      unfold whoK at hneg2
      unfold tickK
      simp only
      rw [if_pos hneg2]
    rw [e1, e2]
    exact ⟨by rw [h.time], h.rooms, h.lines⟩
  · obtain ⟨rn, hrn⟩ : ∃ n : Nat, whoK p k = n := ⟨(whoK p k).toNat, by omega⟩
    have hrl : rn < p.code.length := by
      have := (who_room hp (k.time % p.ticks)).2
      unfold whoK at hrn
      rw [hrn] at this
      simpa using this (by omega)
    have hrl2 : rn < (purgeP p R).code.length := by
      show rn < (purgeC R 0 p.code).length
      rw [purgeC_len]
      exact hrl
    cases hR : R rn with
    | false =>
      refine ⟨htime, fun i hi => ?_, fun i x b hx hb hRb => ?_⟩
      · have hne : i ≠ rn := fun e => by rw [e, hR] at hi; cases hi
        rw [tick_room (p := p) (k := k) (r := i) (by rw [hrn]; omega), tick_room (p := purgeP p R) (k := m) (r := i) (by rw [ew, hrn]; omega)]
        exact h.rooms i hi
      · obtain ⟨a, ha⟩ : ∃ n : Nat, x.1 = n := ⟨x.1.toNat, by have := hw0 x (List.mem_of_getElem? hx); omega⟩
        have hRa := hc x (List.mem_of_getElem? hx) a b ha hb hRb
        have hne1 : a ≠ rn := fun e => by rw [e, hR] at hRa; cases hRa
        have hne2 : b ≠ rn := fun e => by rw [e, hR] at hRb; cases hRb
        rw [tick_line hp hk hx (by rw [ha, hrn]; omega) (by rw [hb, hrn]; omega), tick_line hq hm (show (purgeP p R).wires[i]? = some x from hx) (by rw [ha, ew, hrn]; omega) (by rw [hb, ew, hrn]; omega)]
        exact h.lines i x b hx hb hRb
    | true =>
      have e1 : (tickK p p.spans k).1 = (turnK p k rn).1 := by
        unfold whoK at hrn
        unfold tickK
        simp only [hrn]
        rw [if_neg (by omega), Int.toNat_natCast]
      have e2 : (tickK (purgeP p R) (purgeP p R).spans m).1 = (turnK (purgeP p R) m rn).1 := by
        have hrn2 : whoK (purgeP p R) m = rn := by rw [ew]; exact hrn
        unfold whoK at hrn2
        unfold tickK
        simp only [hrn2]
        rw [if_neg (by omega), Int.toNat_natCast]
      rw [e1, e2]
      obtain ⟨c, s, o, tk⟩ := turn_of hp hk hrl
      have hs2 : m.rooms[rn]? = some s := by rw [← h.rooms rn hR]; exact tk.hs
      have hc2 : (purgeP p R).code[rn]? = some c := by
        show (purgeC R 0 p.code)[rn]? = some c
        rw [purgeC_at, tk.hc, Nat.zero_add]
        simp [hR]
      have tm : Turn (purgeP p R) m rn c s o := ⟨hc2, hs2, tk.ho, tk.ck, tk.st, tk.ok⟩
      exact turn_sim hp hk hm rfl tk tm hR h
/-- .. all along. -/
theorem sim_all {p : PD} {R : Nat → Bool} (hp : plchk p = 0) (hc : ClosedR p.wires R) (hw0 : ∀ x ∈ p.wires, 0 ≤ x.1) : ∀ t, Sim p.wires R (kT p t) (kT (purgeP p R) t)
  | 0 => sim_new p R
  | t + 1 => sim_tick hp (kT_ok hp t) (kT_ok (purge_right R hp) t) hc hw0 (sim_all hp hc hw0 t)
theorem purge_states {p : PD} {r : Nat} (hp : plchk p = 0) (n : Nat) : statesK (purgeP p (fun i => way p.wires i r)) n r = statesK p n r := by
  have hrange : ∀ x ∈ p.wires, 0 ≤ x.1 ∧ x.1 < 5 ∧ 0 ≤ x.2.1 ∧ x.2.1 < 5 := fun x hx => by
    have h1 := (wschk_ok (plchk_zero hp).2.2.2.1).2 x hx
    unfold w4chk wchk at h1
    split at h1
    · rename_i h2
      omega
    · cases h1
  have h := sim_all hp (way_closed p.wires r (fun x hx b hb => by have := hrange x hx; omega)) (fun x hx => (hrange x hx).1)
  unfold statesK
  apply List.map_congr_left
  intro t _
  have := (h t).rooms r (way_self _ _)
  rw [List.getD, List.getD, this]
end Go.Proofs.YtfconbblnmbnpaeDoor
namespace Go.Proofs.YtfconbblnmbnpaeDoor
open Go.RowKit

/-- The cells of wires, one behind the other. -/
def wrCells (l : List W4) : List Value := l.flatMap fun o => [.int .i64 o.1, .int .i64 o.2.1, .int .i64 o.2.2.1, .int .i64 o.2.2.2]
theorem wrCells_snoc (l : List W4) (o : W4) : wrCells (l ++ [o]) = wrCells l ++ [.int .i64 o.1, .int .i64 o.2.1, .int .i64 o.2.2.1, .int .i64 o.2.2.2] := by simp [wrCells]
theorem wrCells_len : ∀ (l : List W4), (wrCells l).length = l.length * 4
  | [] => rfl
  | x :: l => by
    have := wrCells_len l
    have e : wrCells (x :: l) = [.int .i64 x.1, .int .i64 x.2.1, .int .i64 x.2.2.1, .int .i64 x.2.2.2] ++ wrCells l := by simp [wrCells]
    rw [e, List.length_append, this]
    simp
    omega
theorem wrCells_one (l : List W4) : ∀ u ∈ wrCells l, u.oneCell' = true := by
  intro u hu
  simp only [wrCells, List.mem_flatMap] at hu
  obtain ⟨o, _, hu⟩ := hu
  simp at hu
  rcases hu with rfl | rfl | rfl | rfl <;> rfl
theorem wrCells_at : ∀ (l : List W4) (i : Nat) (o : W4), l[i]? = some o → (wrCells l)[i * 4]? = some (.int .i64 o.1) ∧ (wrCells l)[i * 4 + 1]? = some (.int .i64 o.2.1) ∧ (wrCells l)[i * 4 + 2]? = some (.int .i64 o.2.2.1) ∧ (wrCells l)[i * 4 + 3]? = some (.int .i64 o.2.2.2)
  | [], i, o, h => by simp at h
  | x :: l, 0, o, h => by
    simp at h
    subst h
    simp [wrCells]
  | x :: l, i + 1, o, h => by
    have := wrCells_at l i o (by simpa using h)
    have e : wrCells (x :: l) = [.int .i64 x.1, .int .i64 x.2.1, .int .i64 x.2.2.1, .int .i64 x.2.2.2] ++ wrCells l := by simp [wrCells]
    rw [e]
    refine ⟨?_, ?_, ?_, ?_⟩
    · rw [List.getElem?_append_right (by simp; omega)]
      simpa [show (i + 1) * 4 - 4 = i * 4 by omega] using this.1
    · rw [List.getElem?_append_right (by simp; omega)]
      simpa [show (i + 1) * 4 + 1 - 4 = i * 4 + 1 by omega] using this.2.1
    · rw [List.getElem?_append_right (by simp; omega)]
      simpa [show (i + 1) * 4 + 2 - 4 = i * 4 + 2 by omega] using this.2.2.1
    · rw [List.getElem?_append_right (by simp; omega)]
      simpa [show (i + 1) * 4 + 3 - 4 = i * 4 + 3 by omega] using this.2.2.2
theorem wrs_of_own {w : World} {base : Nat} {v : Value} {l : List W4} (h : w.ownsRow base 58 4 v l.length (wrCells l)) : Wrs w v l := by
  have hl := h.lt
  have hcs := @World.ownsRow.cells _ _ _ _ _ _ _ h
  rcases h.2 with ⟨rfl, h0⟩ | ⟨g, cap, cur, rfl, _, _, hcap, _⟩
  · exact Or.inl ⟨List.eq_nil_of_length_eq_zero h0, _, _, rfl⟩
  · have hat : ∀ j u, (wrCells l)[j]? = some u → w.cell? ⟨g, j, none⟩ = some u := fun j u hu => by
      have := hcs rfl j u hu
      unfold Addr.add at this
      split at this
      · rename_i h0; subst h0; exact this
      · simpa using this
    refine Or.inr ⟨g, 0, cap, rfl, hcap, (hl g rfl).2, fun i o ho => ?_⟩
    obtain ⟨h1, h2, h3, h4⟩ := wrCells_at l i o ho
    exact ⟨by simpa using hat _ _ h1, by simpa using hat _ _ h2, by simpa using hat _ _ h3, by simpa using hat _ _ h4⟩
theorem infoWr : (Tryd.prog.info? 58).map (fun i => (i.zero, i.size, i.bytes)) = some (some (.agg #[.int .i64 0, .int .i64 0, .int .i64 0, .int .i64 0]), 4, 32) := by kernel_rfl
theorem wr_new {w : World} {k : Nat} (hk : k = w.heap.size) (x y z u : Value) (t : TypeId) : ∀ j q, [x, y, z, u][j]? = some q → (w.alloc (.cells #[x, y, z, u] t)).cell? ((⟨k, 0, none⟩ : Addr).add j) = some q := by
  subst hk
  intro j q hj
  match j, hj with
  | 0, hj => simp at hj; subst hj; simp [Addr.add]
  | 1, hj => simp at hj; subst hj; simp [Addr.add]
  | 2, hj => simp at hj; subst hj; simp [Addr.add]
  | 3, hj => simp at hj; subst hj; simp [Addr.add]
theorem four_one (a b c d : Int) : ∀ u ∈ [Value.int .i64 a, .int .i64 b, .int .i64 c, .int .i64 d], u.oneCell' = true := by
  intro u hu
  simp at hu
  rcases hu with rfl | rfl | rfl | rfl <;> rfl
theorem own4_form {w : World} {base : Nat} {e : TypeId} {size : Nat} {v : Value} {n : Nat} {xs : List Value} (R : w.ownsRow base e size v n xs) : ∃ g cap, v = .slice g n cap := by
  rcases R.2 with ⟨h, h0⟩ | ⟨g, cap, cur, h, _⟩
  · exact ⟨_, _, by rw [h0]; exact h⟩
  · exact ⟨_, _, h⟩
end Go.Proofs.YtfconbblnmbnpaeDoor
namespace Go.Proofs.YtfconbblnmbnpaeDoor
open Go.RowKit

theorem set4_blk {w : World} {kb : Nat} {a b c d a' b' c' d' : Value} {t : TypeId} (h : w.heap[kb]? = some (.cells #[a, b, c, d] t (0, 0))) : ((((w.setCell ⟨kb, 0, none⟩ a').setCell ⟨kb, 1, none⟩ b').setCell ⟨kb, 2, none⟩ c').setCell ⟨kb, 3, none⟩ d').heap[kb]? = some (.cells #[a', b', c', d'] t (0, 0)) := by
  simp [World.setCell, Array.getElem?_modify, h]
theorem set4_below {B : Nat} {w w' : World} (h : Below B w w') (b : Nat) (hb : B ≤ b) (x0 x1 x2 x3 : Value) : Below B w ((((w'.setCell ⟨b, 0, none⟩ x0).setCell ⟨b, 1, none⟩ x1).setCell ⟨b, 2, none⟩ x2).setCell ⟨b, 3, none⟩ x3) :=
  (((h.setCell (p := ⟨b, 0, none⟩) hb x0).setCell (p := ⟨b, 1, none⟩) hb x1).setCell (p := ⟨b, 2, none⟩) hb x2).setCell (p := ⟨b, 3, none⟩) hb x3
theorem set4_touch (w : World) (b : Nat) (x0 x1 x2 x3 : Value) : KTouch [b] w ((((w.setCell ⟨b, 0, none⟩ x0).setCell ⟨b, 1, none⟩ x1).setCell ⟨b, 2, none⟩ x2).setCell ⟨b, 3, none⟩ x3) :=
  have hm : b ∈ [b] := by simp
  (((KTouch.set w hm 0 x0).trans (KTouch.set _ hm 1 x1)).trans (KTouch.set _ hm 2 x2)).trans (KTouch.set _ hm 3 x3)
theorem blk4_cs {w : World} {kb : Nat} {a b c d : Value} {t : TypeId} (h : w.heap[kb]? = some (.cells #[a, b, c, d] t (0, 0))) : w.cell? ⟨kb, 0, none⟩ = some a ∧ w.cell? ⟨kb, 1, none⟩ = some b ∧ w.cell? ⟨kb, 2, none⟩ = some c ∧ w.cell? ⟨kb, 3, none⟩ = some d ∧ w.frozen? ⟨kb, 0, none⟩ = false ∧ w.frozen? ⟨kb, 1, none⟩ = false ∧ w.frozen? ⟨kb, 2, none⟩ = false ∧ w.frozen? ⟨kb, 3, none⟩ = false := by
  simp [World.cell?, World.frozen?, h]
end Go.Proofs.YtfconbblnmbnpaeDoor
namespace Go.Proofs.YtfconbblnmbnpaeDoor
open Go.RowKit

set_option maxRecDepth 100000 in
set_option maxHeartbeats 1000000 in
theorem flroom_yes (r : Int) (w : World) (h0 : 0 ≤ r) (h1 : r < 5) : Calls Tryd.prog 33 #[.int .i64 r] w fun e w' => e = .returned (.bool true) ∧ w' = w := by
  go_enter Tryd.func33, Tryd.ntmps33
  go_wp2
  go_ret
  exact ⟨rfl, rfl⟩
set_option maxRecDepth 100000 in
set_option maxHeartbeats 1000000 in
theorem flroom_no (r : Int) (w : World) (h : ¬ (0 ≤ r ∧ r < 5)) : Calls Tryd.prog 33 #[.int .i64 r] w fun e w' => e = .returned (.bool false) ∧ w' = w := by
  by_cases h0 : 0 ≤ r
  · have h1 : decide (r < 5) = false := by simp; omega
    clear h
    go_enter Tryd.func33, Tryd.ntmps33
    go_wp2
    go_ret
    exact ⟨rfl, rfl⟩
  · have h0' : decide (0 ≤ r) = false := by simp; omega
    clear h
    go_enter Tryd.func33, Tryd.ntmps33
    go_wp2
    go_ret
    exact ⟨rfl, rfl⟩
end Go.Proofs.YtfconbblnmbnpaeDoor
namespace Go.Proofs.YtfconbblnmbnpaeDoor

/-- Do two states look the same? -/
def likeS (s t : St) : Bool := decide (s.p = t.p) && (decide (s.c 0 = t.c 0) && (decide (s.c 1 = t.c 1) && (decide (s.c 2 = t.c 2) && (decide (s.c 3 = t.c 3) && (decide (s.c 4 = t.c 4) && (decide (s.c 5 = t.c 5) && (s.f == t.f)))))))
theorem likeS_refl (s : St) : likeS s s = true := by simp [likeS]
end Go.Proofs.YtfconbblnmbnpaeDoor
namespace Go.Proofs.YtfconbblnmbnpaeDoor
open Go.RowKit

theorem Ops.block {w w' : World} {v : Value} {l : List O3} (h : Ops w v l) (hb : ∀ k, k < w.heap.size → v.ownBlock = some k → w'.heap[k]? = w.heap[k]?) (hs : w.heap.size ≤ w'.heap.size) : Ops w' v l := by
  rcases h with h | ⟨b, off, cap, rfl, hlt, hc⟩
  · exact Or.inl h
  · have hk := hb b hlt rfl
    refine Or.inr ⟨b, off, cap, rfl, by omega, fun i o ho => ?_⟩
    obtain ⟨h0, h1, h2⟩ := hc i o ho
    exact ⟨(World.cell?_of_block (w := w) (a := ⟨b, _, none⟩) hk).trans h0, (World.cell?_of_block (w := w) (a := ⟨b, _, none⟩) hk).trans h1, (World.cell?_of_block (w := w) (a := ⟨b, _, none⟩) hk).trans h2⟩
theorem Ops.lt {w : World} {v : Value} {l : List O3} (h : Ops w v l) (hl : l ≠ []) : ∀ g, v.ownBlock = some g → g < w.heap.size := fun g hg => by
  rcases h with ⟨rfl, _⟩ | ⟨b, off, cap, rfl, hlt, _⟩
  · exact absurd rfl hl
  · simp only [Value.ownBlock, Option.some.injEq] at hg
    omega
end Go.Proofs.YtfconbblnmbnpaeDoor
namespace Go.Proofs.YtfconbblnmbnpaeDoor
open Go.RowKit

/-- What lies in fours can be read cell by cell. -/
theorem quad_at {w : World} {b : Nat} : ∀ (l : List W4) (off : Nat), WrC w b off l → ∀ j u, (wrCells l)[j]? = some u → w.cell? ((⟨b, off, none⟩ : Addr).add j) = some u
  | [], off, _, j, u, hj => by simp [wrCells] at hj
  | x :: l, off, h, j, u, hj => by
    have e : wrCells (x :: l) = [.int .i64 x.1, .int .i64 x.2.1, .int .i64 x.2.2.1, .int .i64 x.2.2.2] ++ wrCells l := by simp [wrCells]
    rw [e] at hj
    obtain ⟨h0, h1, h2, h3⟩ := h 0 x (by simp)
    rw [Addr.add_lit]
    match j, hj with
    | 0, hj => simp at hj; subst hj; simpa using h0
    | 1, hj => simp at hj; subst hj; simpa using h1
    | 2, hj => simp at hj; subst hj; simpa using h2
    | 3, hj => simp at hj; subst hj; simpa using h3
    | j + 4, hj =>
      rw [List.getElem?_append_right (by simp)] at hj
      have ih := quad_at l (off + 4) (fun i o ho => by
        have := h (i + 1) o (by simpa using ho)
        rw [show off + (i + 1) * 4 = off + 4 + i * 4 by omega] at this
        exact this) j u (by simpa using hj)
      rw [Addr.add_lit] at ih
      rw [show off + (j + 4) = off + 4 + j by omega]
      exact ih
set_option maxRecDepth 100000 in
set_option maxHeartbeats 4000000 in
theorem clone_wr_nil (cap : Nat) (w : World) : Calls Tryd.prog 26 #[.slice none 0 cap] w fun e w' => e = .returned (.slice none 0 0) ∧ w' = w := by
  have q : ∀ (w : World) (a : Option Addr) (n c n' c' : Nat), (binOp .eql 24 (.slice a n c) (.slice none n' c')).run Tryd.prog w = .ok (.bool a.isNone) w := fun w a n c n' c' => Lib.run_eql_slice_nil w _ _ a n c n' c' Tryd.underlying24
  go_enter Tryd.func26, Tryd.ntmps26
  go_wp2
  go_ret
  exact ⟨rfl, rfl⟩
set_option maxRecDepth 100000 in
set_option maxHeartbeats 4000000 in
theorem clone_wr_some (ad : Addr) (cap : Nat) (l : List W4) (w : World) (hx : l.length ≤ 1000) (hc : ∀ j u, (wrCells l)[j]? = some u → w.cell? (ad.add j) = some u) :
    Calls Tryd.prog 26 #[.slice (some ad) l.length cap] w fun e w' => ∃ v', e = .returned v' ∧ w'.ownsRow w.heap.size 58 4 v' l.length (wrCells l) ∧ Below w.heap.size w w' := by
  obtain ⟨ii, hi, hz0, hz1, hz2⟩ := info_parts infoWr
  have q : ∀ (w : World) (a : Option Addr) (n c n' c' : Nat), (binOp .eql 24 (.slice a n c) (.slice none n' c')).run Tryd.prog w = .ok (.bool a.isNone) w := fun w a n c n' c' => Lib.run_eql_slice_nil w _ _ a n c n' c' Tryd.underlying24
  have HC : Hid (∀ j u, (wrCells l)[j]? = some u → w.cell? (ad.add j) = some u) := hc
  clear hc
  go_enter Tryd.func26, Tryd.ntmps26
  go_wp2_with (at_builtin; refine wpList_append_at _ rfl _ _ 24 rfl w.heap.size 58 ii _ 4 32 Tryd.underlying24 hi hz0 hz1 hz2 rfl (by decide) _ _ _ rfl (World.ownsRow_made w #[] 0 (Nat.le_refl _) (Nat.zero_le _) rfl) ad l.length cap (wrCells l) rfl ?c0A ?c1A ?c2A ?c3A ?c4A ?c5A ?_)
  case c0A => exact wrCells_len l
  case c1A =>
    intro j u hj
    have h := HC.out j u hj
    exact (((Below.refl _ w).alloc (Nat.le_refl _) _).cell (p := ad.add j) (World.block_lt_of_cell? w _ h)).trans h
  case c2A => exact wrCells_one l
  case c3A => unfold maxLen; omega
  case c4A => omega
  case c5A => simp
  intro v1 w2 own1 hg1 hat1
  clear q
  go_wp2
  go_ret
  refine ⟨v1, rfl, by simpa using own1, ((Below.refl _ w).alloc (Nat.le_refl _) _).grown hg1 (by simp) (by intro k hk; simp [Value.ownBlock] at hk; omega)⟩
theorem clone_wrs (l : List W4) (v : Value) (w : World) (h : Wrs w v l) (hx : l.length ≤ 1000) :
    Calls Tryd.prog 26 #[v] w fun e w' => ∃ v', e = .returned v' ∧ w'.ownsRow w.heap.size 58 4 v' l.length (wrCells l) ∧ Below w.heap.size w w' := by
  rcases h with ⟨rfl, ao, cap, rfl⟩ | ⟨b, off, cap, rfl, hcap, hlt, hc⟩
  · cases ao with
    | none =>
      refine (clone_wr_nil cap w).mono ?_
      rintro e w' ⟨rfl, rfl⟩
      exact ⟨_, rfl, World.ownsRow_nil _ _ _ _, Below.refl _ _⟩
    | some ad => exact clone_wr_some ad cap [] w (Nat.zero_le _) (fun j u hj => by simp [wrCells] at hj)
  · exact clone_wr_some ⟨b, off, none⟩ cap l w hx (quad_at l off hc)
end Go.Proofs.YtfconbblnmbnpaeDoor
namespace Go.Proofs.YtfconbblnmbnpaeDoor
open Go.RowKit

set_option maxRecDepth 100000 in
set_option maxHeartbeats 2000000 in
theorem index_ints (xs : List Int) (x : Int) (b off cap : Nat) (w : World) (hx : xs.length ≤ 1000) (hc : ∀ (i : Nat) y, xs[i]? = some y → w.cell? ⟨b, off + i, none⟩ = some (.int .i64 y)) :
    Calls Tryd.prog 43 #[.slice (some ⟨b, off, none⟩) xs.length cap, .int .i64 x] w fun e w' => (∃ r : Int, e = .returned (.int .i64 r) ∧ decide (0 ≤ r) = xs.contains x) ∧ w' = w := by
  have HC : Hid (∀ (i : Nat) y, xs[i]? = some y → w.cell? ⟨b, off + i, none⟩ = some (.int .i64 y)) := hc
  clear hc
  go_enter Tryd.func43, Tryd.ntmps43
  go_wp2
  go_loopw [8] (fun i wr => ∃ k : Nat, k ≤ xs.length ∧ i = .int .i64 k ∧ (∀ (j : Nat) y, j < k → xs[j]? = some y → (x == y) = false) ∧ wr = w) (fun i _ => xs.length - (intOf i).toNat)
  case atStart => exact ⟨0, Nat.zero_le _, rfl, fun j y hj => by omega, rfl⟩
  case round =>
    obtain ⟨k, hk, rfl, hall, rfl⟩ := hrel
    have Hall : Hid (∀ (j : Nat) y, j < k → xs[j]? = some y → (x == y) = false) := hall
    clear hall
    by_cases hkl : k < xs.length
    · have hki : (k : Int) < (xs.length : Int) := by omega
      obtain ⟨y, hy⟩ : ∃ y, xs[k]? = some y := ⟨xs[k], List.getElem?_eq_getElem hkl⟩
      have d0 := HC.out k y hy
      have HY : Hid (xs[k]? = some y) := hy
      clear hy
      cases hxy : (x == y) with
      | false =>
        go_wp2
        go_roundw
        case rel =>
          refine ⟨k + 1, by omega, by go_num, fun j z hj hz => ?_, by trivial⟩
          by_cases hjk : j < k
          · exact Hall.out j z hjk hz
          · obtain rfl : j = k := by omega
            rw [HY.out] at hz
            obtain rfl := Option.some.inj hz
            exact hxy
        case measure => simp [intOf]; omega
      | true =>
        have HF : Hid (xs.contains x = true) := by
          show _ = _
          rw [List.contains_iff_mem]
          obtain rfl := eq_of_beq hxy
          exact List.mem_of_getElem? HY.out
        go_wp2
        go_ret
        exact ⟨⟨_, rfl, by rw [HF.out]; simp⟩, rfl⟩
    · have hki : decide ((k : Int) < (xs.length : Int)) = false := decide_eq_false (by omega)
      have hki' : decide (k < xs.length) = false := decide_eq_false (by omega)
      have HF : Hid (xs.contains x = false) := by
        show _ = _
        rw [Bool.eq_false_iff]
        intro h
        rw [List.contains_iff_mem] at h
        obtain ⟨j, hj⟩ := List.mem_iff_getElem?.1 h
        have := Hall.out j x (by have := (List.getElem?_eq_some_iff.1 hj).1; omega) hj
        simp at this
      go_wp2
      go_ret
      exact ⟨⟨_, rfl, by rw [HF.out]; decide⟩, rfl⟩
set_option maxRecDepth 100000 in
set_option maxHeartbeats 2000000 in
theorem contains_ints (xs : List Int) (x : Int) (b off cap : Nat) (w : World) (hx : xs.length ≤ 1000) (hc : ∀ (i : Nat) y, xs[i]? = some y → w.cell? ⟨b, off + i, none⟩ = some (.int .i64 y)) :
    Calls Tryd.prog 27 #[.slice (some ⟨b, off, none⟩) xs.length cap, .int .i64 x] w fun e w' => e = .returned (.bool (xs.contains x)) ∧ w' = w := by
  have h := index_ints xs x b off cap w hx hc
  obtain ⟨r, hr⟩ : ∃ r, r = xs.contains x := ⟨_, rfl⟩
  rw [← hr] at h ⊢
  clear hr hc
  go_enter Tryd.func27, Tryd.ntmps27
  go_wp2_with (go_at_call 43; refine h.mono ?_; rintro e w1 ⟨⟨q, rfl, hq⟩, rfl⟩; clear h)
  go_ret
  exact ⟨rfl, rfl⟩
end Go.Proofs.YtfconbblnmbnpaeDoor
namespace Go.Proofs.YtfconbblnmbnpaeDoor

/-- What is wrong with a plan, or a room of it. -/
def prgE (p : PD) (r : Int) : Int := if plchk p = 0 then (if r < 0 ∨ (p.code.length : Int) ≤ r then 1 else 0) else plchk p
theorem prgE_two (p : PD) (r : Int) : prgE p r = if plchk p = 0 ∧ (r < 0 ∨ (p.code.length : Int) ≤ r) then 1 else plchk p := by
  unfold prgE
  by_cases h : plchk p = 0
  · by_cases h2 : r < 0 ∨ (p.code.length : Int) ≤ r
    · rw [if_pos h, if_pos h2, if_pos ⟨h, h2⟩]
    · rw [if_pos h, if_neg h2, if_neg (fun e => h2 e.2), h]
  · rw [if_neg h, if_neg (fun e => h e.1)]
theorem prgE_zero {p : PD} {r : Int} (h : prgE p r = 0) : plchk p = 0 ∧ 0 ≤ r ∧ r < (p.code.length : Int) := by
  unfold prgE at h
  split at h
  · rename_i h1
    split at h
    · omega
    · exact ⟨h1, by omega, by omega⟩
  · omega
end Go.Proofs.YtfconbblnmbnpaeDoor
namespace Go.Proofs.YtfconbblnmbnpaeDoor
open Go.RowKit

/-- No plan. -/
def noPlan : PD := ⟨[], 0, [], []⟩
/-- The plan without those that cannot tell a room. -/
def prgP (p : PD) (r : Int) : PD := if prgE p r = 0 then purgeP p (fun i => way p.wires i r.toNat) else noPlan
def PrgPurge (G : World → Prop) : Prop := ∀ (p : PD) (vc vs vw : Value) (r : Int) (W : World), G W → Pln W vc vs vw p → Calls Tryd.prog 10 #[plV vc p.ticks vs vw, .int .i64 r] W fun e w' => ∃ ic is iw, e = .returned (.tuple #[plV ic (prgP p r).ticks is iw, wErr (prgE p r)]) ∧ Pln w' ic is iw (prgP p r) ∧ Below W.heap.size W w'
end Go.Proofs.YtfconbblnmbnpaeDoor
namespace Go.Proofs.YtfconbblnmbnpaeDoor
open Go.RowKit

/-- What is wrong where two are held against each other. -/
def likeE (p q : PD) (n r : Int) : Int := if plchk p = 0 then (if plchk q = 0 then (if r < 0 ∨ (p.code.length : Int) ≤ r ∨ (q.code.length : Int) ≤ r ∨ n < 0 ∨ 2000 < n then 1 else 0) else plchk q) else plchk p
/-- The first place at which two rows of states part; -1: none. -/
def partAt : List St → List St → Nat → Int
  | s :: l, t :: m, i => if likeS s t = true then partAt l m (i + 1) else (i : Int)
  | _, _, _ => -1
theorem partAt_same : ∀ (l : List St) (i : Nat), partAt l l i = -1
  | [], _ => rfl
  | s :: l, i => by
    rw [partAt, if_pos (likeS_refl s)]
    exact partAt_same l (i + 1)
def likeAt (p q : PD) (n r : Int) : Int := if likeE p q n r = 0 then partAt (statesK p n.toNat r.toNat) (statesK q n.toNat r.toNat) 0 else 0
def PrgSame (G : World → Prop) : Prop := ∀ (p q : PD) (vc vs vw ic is iw : Value) (n r : Int) (W : World), G W → Pln W vc vs vw p → Pln W ic is iw q → Calls Tryd.prog 11 #[plV vc p.ticks vs vw, plV ic q.ticks is iw, .int .i64 n, .int .i64 r] W fun e w' => e = .returned (.tuple #[.int .i64 (likeAt p q n r), wErr (likeE p q n r)]) ∧ Below W.heap.size W w'
/-- WHO CANNOT TELL DOES NOT MATTER, as package purge tells it. -/
theorem like_purged {p : PD} {n r : Int} (hz : prgE p r = 0) (hn : 0 ≤ n) (hn2 : n ≤ 400) : likeE p (prgP p r) n r = 0 ∧ likeAt p (prgP p r) n r = -1 ∧ plchk (prgP p r) = 0 := by
  have hq : prgP p r = purgeP p (fun i => way p.wires i r.toNat) := by
    unfold prgP
    rw [if_pos hz]
  have hpp : plchk p = 0 ∧ 0 ≤ r ∧ r < (p.code.length : Int) := by
    unfold prgE at hz
    split at hz
    · rename_i h1
      split at hz
      · omega
      · exact ⟨h1, by omega, by omega⟩
    · omega
  have hr := purge_right (fun i => way p.wires i r.toNat) hpp.1
  have he : likeE p (prgP p r) n r = 0 := by
    have hl : ((prgP p r).code.length : Int) = p.code.length := by
      rw [hq]
      show ((purgeC _ 0 p.code).length : Int) = _
      rw [purgeC_len]
    unfold likeE
    rw [if_pos hpp.1, hl, hq, if_pos hr, if_neg (by omega)]
  refine ⟨he, ?_, by rw [hq]; exact hr⟩
  unfold likeAt
  rw [if_pos he, hq, purge_states hpp.1]
  exact partAt_same _ _
end Go.Proofs.YtfconbblnmbnpaeDoor
namespace Go.Proofs.YtfconbblnmbnpaeDoor
open Go.RowKit

/-- The law's own plan: two rooms that set a cell, and no wire. -/
def toyQ : PD := ⟨[[(1, 0, 1)], [(1, 0, 2)]], 2, [(0, 1, 0), (1, 2, 1)], []⟩
theorem toyQ_e : prgE toyQ 0 = 0 := by decide +kernel
theorem toyQ_code : (prgP toyQ 0).code = [[(1, 0, 1)], [(10, 0, 0)]] := by decide +kernel
theorem toyQ_ticks : (prgP toyQ 0).ticks = 2 := by decide +kernel
theorem toyQ_pln (W : World) (n : Nat) (hn : n = W.heap.size) : Pln ((((W.alloc (.cells #[.int .i64 1, .int .i64 0, .int .i64 1] 38)).alloc (.cells #[.int .i64 1, .int .i64 0, .int .i64 2] 38)).alloc (.cells #[.slice (some ⟨n, 0, none⟩) 1 1, .slice (some ⟨n + 1, 0, none⟩) 1 1] 39)).alloc (.cells #[.int .i64 0, .int .i64 1, .int .i64 0, .int .i64 1, .int .i64 2, .int .i64 1] 41)) (.slice (some ⟨n + 2, 0, none⟩) 2 2) (.slice (some ⟨n + 3, 0, none⟩) 2 2) (.slice none 0 0) toyQ := by
  subst hn
  refine ⟨Or.inr ⟨_, 0, 2, rfl, Nat.le_refl _, by simp, fun i c hi => ?_⟩, Or.inr ⟨_, 0, 2, rfl, Nat.le_refl _, by simp, fun i s hi => ?_⟩, Or.inl ⟨rfl, _, _, rfl⟩⟩
  · match i, hi with
    | 0, hi =>
      simp [toyQ] at hi
      subst hi
      refine ⟨.slice (some ⟨W.heap.size, 0, none⟩) 1 1, by simp [go_sem], Or.inr ⟨W.heap.size, 0, 1, rfl, by simp; omega, fun j o ho => ?_⟩⟩
      match j, ho with
      | 0, ho => simp at ho; subst ho; simp [go_sem]
      | j + 1, ho => simp at ho
    | 1, hi =>
      simp [toyQ] at hi
      subst hi
      refine ⟨.slice (some ⟨W.heap.size + 1, 0, none⟩) 1 1, by simp [go_sem], Or.inr ⟨W.heap.size + 1, 0, 1, rfl, by simp, fun j o ho => ?_⟩⟩
      match j, ho with
      | 0, ho => simp at ho; subst ho; simp [go_sem]
      | j + 1, ho => simp at ho
    | i + 2, hi => simp [toyQ] at hi
  · match i, hi with
    | 0, hi => simp [toyQ] at hi; subst hi; simp [go_sem]
    | 1, hi => simp [toyQ] at hi; subst hi; simp [go_sem]
    | i + 2, hi => simp [toyQ] at hi
set_option maxRecDepth 100000 in
set_option maxHeartbeats 8000000 in
theorem psame_of {G : World → Prop} (hall : ∀ w w', G w → Below w.heap.size w w' → G w') (P : PrgPurge G) (S : PrgSame G) (hC : ∀ (p : PD) (vc vs vw : Value) (W : World), G W → Pln W vc vs vw p → Calls Tryd.prog 12 #[plV vc p.ticks vs vw] W fun e w' => e = .returned (wErr (plchk p)) ∧ Below W.heap.size W w')
    (p : PD) (vc vs vw : Value) (n r : Int) (w : World) (hG : G w) (hP : Pln w vc vs vw p) :
    Calls Tryd.prog 4 #[plV vc p.ticks vs vw, .int .i64 n, .int .i64 r] w fun e w' => e = .returned (.bool true) ∧ Below w.heap.size w w' := by
  obtain ⟨ca, cc, rfl⟩ := hP.code.form
  obtain ⟨sa, sc, rfl⟩ := hP.spans.form
  obtain ⟨wa, wc', rfl⟩ := hP.wires.form
  have hx0 := Bx.first w (.slice ca p.code.length cc) p.ticks (.slice sa p.spans.length sc) (.slice wa p.wires.length wc')
  have HP : Hid (Pln w (.slice ca p.code.length cc) (.slice sa p.spans.length sc) (.slice wa p.wires.length wc') p) := hP
  have HG : Hid (∀ W, Below w.heap.size w W → G W) := fun W hb => hall w W hG hb
  have HT : Hid (∀ W n, Below w.heap.size w W → n = W.heap.size → Calls Tryd.prog 10 #[.agg #[.slice (some ⟨n + 2, 0, none⟩) 2 2, .int .i64 2, .slice (some ⟨n + 3, 0, none⟩) 2 2, .slice none 0 0], .int .i64 0] (((((W.alloc (.cells #[.int .i64 1, .int .i64 0, .int .i64 1] 38)).alloc (.cells #[.int .i64 1, .int .i64 0, .int .i64 2] 38)).alloc (.cells #[.slice (some ⟨n, 0, none⟩) 1 1, .slice (some ⟨n + 1, 0, none⟩) 1 1] 39)).alloc (.cells #[.int .i64 0, .int .i64 1, .int .i64 0, .int .i64 1, .int .i64 2, .int .i64 1] 41)).alloc (.cells #[.slice (some ⟨n + 2, 0, none⟩) 2 2, .int .i64 2, .slice (some ⟨n + 3, 0, none⟩) 2 2, .slice none 0 0] 26)) fun e w' => ∃ (cb co ck ob oo og pb po pg : Nat) (ia ja : Option Addr) (il ic jl jc : Nat), e = .returned (.tuple #[.agg #[.slice (some ⟨cb, co, none⟩) 2 ck, .int .i64 2, .slice ia il ic, .slice ja jl jc], .nilIface]) ∧ (w'.cell? ⟨cb, co, none⟩ = some (.slice (some ⟨ob, oo, none⟩) 1 og) ∧ w'.cell? ⟨cb, co + 1, none⟩ = some (.slice (some ⟨pb, po, none⟩) 1 pg) ∧ w'.cell? ⟨ob, oo, none⟩ = some (.int .i64 1) ∧ w'.cell? ⟨pb, po, none⟩ = some (.int .i64 10)) ∧ Below W.heap.size W w') := fun W n hb hn => by
    have hA : Below W.heap.size W ((((W.alloc (.cells #[.int .i64 1, .int .i64 0, .int .i64 1] 38)).alloc (.cells #[.int .i64 1, .int .i64 0, .int .i64 2] 38)).alloc (.cells #[.slice (some ⟨n, 0, none⟩) 1 1, .slice (some ⟨n + 1, 0, none⟩) 1 1] 39)).alloc (.cells #[.int .i64 0, .int .i64 1, .int .i64 0, .int .i64 1, .int .i64 2, .int .i64 1] 41)) := ((((Below.refl _ _).alloc (Nat.le_refl _) _).alloc (by simp) _).alloc (by simp; omega) _).alloc (by simp; omega) _
    have hPl := toyQ_pln W n hn
    generalize ((((W.alloc (.cells #[.int .i64 1, .int .i64 0, .int .i64 1] 38)).alloc (.cells #[.int .i64 1, .int .i64 0, .int .i64 2] 38)).alloc (.cells #[.slice (some ⟨n, 0, none⟩) 1 1, .slice (some ⟨n + 1, 0, none⟩) 1 1] 39)).alloc (.cells #[.int .i64 0, .int .i64 1, .int .i64 0, .int .i64 1, .int .i64 2, .int .i64 1] 41)) = W1 at hA hPl ⊢
    have hB : Below W1.heap.size W1 (W1.alloc (.cells #[.slice (some ⟨n + 2, 0, none⟩) 2 2, .int .i64 2, .slice (some ⟨n + 3, 0, none⟩) 2 2, .slice none 0 0] 26)) := (Below.refl _ _).alloc (Nat.le_refl _) _
    have hAB := hA.trans (hB.mono hA.size)
    have h := P toyQ _ _ _ 0 _ (HG.out _ (hb.trans (hAB.mono hb.size))) (hPl.all hB)
    rw [toyQ_e, toyQ_ticks] at h
    refine h.mono ?_
    rintro e w' ⟨ic, is, iw, rfl, h1, h2⟩
    obtain ⟨ia, il, rfl⟩ := h1.spans.form
    obtain ⟨ja, jl, rfl⟩ := h1.wires.form
    have hc := h1.code
    rw [toyQ_code] at hc
    rcases hc with ⟨h3, _⟩ | ⟨cb, co, ck, rfl, _, _, hc⟩
    · cases h3
    · obtain ⟨u, hu, hou⟩ := hc 0 _ rfl
      obtain ⟨v, hv, hov⟩ := hc 1 _ rfl
      rcases hou with ⟨h3, _⟩ | ⟨ob, oo, og, rfl, _, ho⟩
      · cases h3
      rcases hov with ⟨h3, _⟩ | ⟨pb, po, pg, rfl, _, ho'⟩
      · cases h3
      refine ⟨cb, co, ck, ob, oo, og, pb, po, pg, _, _, _, _, _, _, rfl, ⟨by simpa using hu, hv, ?_, ?_⟩, hAB.trans (h2.mono hAB.size)⟩
      · simpa using (ho 0 _ rfl).1
      · simpa using (ho' 0 _ rfl).1
  have HPr : Hid (∀ W, Below w.heap.size w W → Calls Tryd.prog 10 #[.agg #[.slice ca p.code.length cc, .int .i64 p.ticks, .slice sa p.spans.length sc, .slice wa p.wires.length wc'], .int .i64 r] W fun e w' => ∃ (a1 a2 a3 : Option Addr) (l1 c1 l2 c2 l3 c3 : Nat), e = .returned (.tuple #[.agg #[.slice a1 l1 c1, .int .i64 (prgP p r).ticks, .slice a2 l2 c2, .slice a3 l3 c3], wErr (prgE p r)]) ∧ Pln w' (.slice a1 l1 c1) (.slice a2 l2 c2) (.slice a3 l3 c3) (prgP p r) ∧ Below W.heap.size W w') := fun W hb => by
    refine (P p _ _ _ r W (HG.out W hb) (HP.out.all hb)).mono ?_
    rintro e w' ⟨ic, is, iw, rfl, h1, h2⟩
    obtain ⟨a1, c1, rfl⟩ := h1.code.form
    obtain ⟨a2, c2, rfl⟩ := h1.spans.form
    obtain ⟨a3, c3, rfl⟩ := h1.wires.form
    exact ⟨_, _, _, _, _, _, _, _, _, rfl, h1, h2⟩
  unfold plV
  clear hP hG
  have k0 := hx0.c0
  go_enter Tryd.func4, Tryd.ntmps4
  go_upto_region 3 with (go_at_call 10; refine (HT.out (w.alloc (.cells #[.slice ca p.code.length cc, .int .i64 p.ticks, .slice sa p.spans.length sc, .slice wa p.wires.length wc'] 26)) (w.heap.size + 1) hx0.below (by simp)).mono ?_; rintro e w2 ⟨cb, co, ck, ob, oo, og, pb, po, pg, ia, ja, il, ic, jl, jc, rfl, ⟨t0, t1, t2, t3⟩, b2⟩)
  have hx2 : Bx w w2 (.slice ca p.code.length cc) p.ticks (.slice sa p.spans.length sc) (.slice wa p.wires.length wc') := hx0.step b2
  have hA2 : Below w2.heap.size w2 (w2.alloc (.cells #[.slice (some ⟨cb, co, none⟩) 2 ck, .int .i64 2, .slice ia il ic, .slice ja jl jc] 26)) := (Below.refl _ _).alloc (Nat.le_refl _) _
  have z0 : (w2.alloc (.cells #[.slice (some ⟨cb, co, none⟩) 2 ck, .int .i64 2, .slice ia il ic, .slice ja jl jc] 26)).cell? ⟨w2.heap.size, 0, none⟩ = some (.slice (some ⟨cb, co, none⟩) 2 ck) := by simp
  replace t0 := (hA2.cell (p := ⟨cb, co, none⟩) (World.block_lt_of_cell? _ _ t0)).trans t0
  replace t1 := (hA2.cell (p := ⟨cb, co + 1, none⟩) (World.block_lt_of_cell? _ _ t1)).trans t1
  replace t2 := (hA2.cell (p := ⟨ob, oo, none⟩) (World.block_lt_of_cell? _ _ t2)).trans t2
  replace t3 := (hA2.cell (p := ⟨pb, po, none⟩) (World.block_lt_of_cell? _ _ t3)).trans t3
  have hx3 := hx2.step hA2
  clear b2 hx2 hA2 k0 hx0 HT
  generalize w2.alloc (.cells #[.slice (some ⟨cb, co, none⟩) 2 ck, .int .i64 2, .slice ia il ic, .slice ja jl jc] 26) = W3 at *
  generalize w2.heap.size = b8 at *
  have k0 := hx3.c0
  have k1 := hx3.c1
  have k2 := hx3.c2
  have k3 := hx3.c3
  go_upto_region 5 with fail
  clear t0 t1 t2 t3 z0
  have hprg : ∀ W, Below W3.heap.size W3 W → Below w.heap.size w W := fun W hb => (hx3.step hb).below
  by_cases hz : prgE p r = 0
  case neg =>
    rw [wErr_not hz] at HPr
    generalize prgE p r = z at HPr hz
    go_wp2_with (go_at_call 10; refine (HPr.out W3 hx3.below).mono ?_; rintro e w4 ⟨a1, a2, a3, l1, c1, l2, c2, l3, c3, rfl, hpl, b4⟩)
    go_ret
    exact ⟨rfl, (hx3.step (b4.alloc b4.size _)).below⟩
  rw [hz] at HPr
  have HPr0 : Hid (∀ W, Below w.heap.size w W → Calls Tryd.prog 10 #[.agg #[.slice ca p.code.length cc, .int .i64 p.ticks, .slice sa p.spans.length sc, .slice wa p.wires.length wc'], .int .i64 r] W fun e w' => ∃ (a1 a2 a3 : Option Addr) (l1 c1 l2 c2 l3 c3 : Nat), e = .returned (.tuple #[.agg #[.slice a1 l1 c1, .int .i64 (prgP p r).ticks, .slice a2 l2 c2, .slice a3 l3 c3], .nilIface]) ∧ Pln w' (.slice a1 l1 c1) (.slice a2 l2 c2) (.slice a3 l3 c3) (prgP p r) ∧ Below W.heap.size W w') := HPr.out
  clear HPr
  go_upto_region 6 with (go_at_call 10; refine (HPr0.out W3 hx3.below).mono ?_; rintro e w4 ⟨a1, a2, a3, l1, c1, l2, c2, l3, c3, rfl, hpl, b4⟩)
  have hA4 : Below w4.heap.size w4 (w4.alloc (.cells #[.slice a1 l1 c1, .int .i64 (prgP p r).ticks, .slice a2 l2 c2, .slice a3 l3 c3] 26)) := (Below.refl _ _).alloc (Nat.le_refl _) _
  have hx5 := (hx3.step b4).step hA4
  have HPl5 : Hid (Pln (w4.alloc (.cells #[.slice a1 l1 c1, .int .i64 (prgP p r).ticks, .slice a2 l2 c2, .slice a3 l3 c3] 26)) (.slice a1 l1 c1) (.slice a2 l2 c2) (.slice a3 l3 c3) (prgP p r)) := hpl.all hA4
  have hbx : (w4.alloc (.cells #[.slice a1 l1 c1, .int .i64 (prgP p r).ticks, .slice a2 l2 c2, .slice a3 l3 c3] 26)).heap[w4.heap.size]? = some (.cells #[.slice a1 l1 c1, .int .i64 (prgP p r).ticks, .slice a2 l2 c2, .slice a3 l3 c3] 26 (0, 0)) := World.alloc_heap_new _ _
  clear k0 k1 k2 k3 hpl b4 hA4 hx3 HPr0 hprg
  generalize w4.alloc (.cells #[.slice a1 l1 c1, .int .i64 (prgP p r).ticks, .slice a2 l2 c2, .slice a3 l3 c3] 26) = W5 at *
  generalize w4.heap.size = qb at *
  by_cases hn0 : n < 0
  case pos =>
    have hn0' : decide (n < 0) = true := decide_eq_true hn0
    go_wp2
    go_ret
    exact ⟨rfl, hx5.below⟩
  have hn0' : decide (n < 0) = false := decide_eq_false hn0
  by_cases hn4 : 400 < n
  case pos =>
    have hn4' : decide (400 < n) = true := decide_eq_true hn4
    go_wp2
    go_ret
    exact ⟨rfl, hx5.below⟩
  have hn4' : decide (400 < n) = false := decide_eq_false hn4
  obtain ⟨hle, hla, hlc⟩ := like_purged (p := p) (n := n) (r := r) hz (by omega) (by omega)
  have HS : Hid (Calls Tryd.prog 11 #[.agg #[.slice ca p.code.length cc, .int .i64 p.ticks, .slice sa p.spans.length sc, .slice wa p.wires.length wc'], .agg #[.slice a1 l1 c1, .int .i64 (prgP p r).ticks, .slice a2 l2 c2, .slice a3 l3 c3], .int .i64 n, .int .i64 r] W5 fun e w' => e = .returned (.tuple #[.int .i64 (-1), .nilIface]) ∧ Below W5.heap.size W5 w') := by
    have := S p (prgP p r) (.slice ca p.code.length cc) (.slice sa p.spans.length sc) (.slice wa p.wires.length wc') (.slice a1 l1 c1) (.slice a2 l2 c2) (.slice a3 l3 c3) n r W5 (HG.out _ hx5.below) (HP.out.all hx5.below) HPl5.out
    rw [hle, hla] at this
    exact this
  have HCk : Hid (∀ W, Below W5.heap.size W5 W → Calls Tryd.prog 12 #[.agg #[.slice a1 l1 c1, .int .i64 (prgP p r).ticks, .slice a2 l2 c2, .slice a3 l3 c3]] W fun e w' => e = .returned .nilIface ∧ Below W.heap.size W w') := fun W hb => by
    have := hC (prgP p r) (.slice a1 l1 c1) (.slice a2 l2 c2) (.slice a3 l3 c3) W (HG.out _ (hx5.step hb).below) (HPl5.out.all hb)
    rw [hlc] at this
    exact this
  clear hle hla hlc hz
  generalize (prgP p r).ticks = qt at *
  have k0 := hx5.c0
  have k1 := hx5.c1
  have k2 := hx5.c2
  have k3 := hx5.c3
  have hqc : ∀ W, Below W5.heap.size W5 W → W.cell? ⟨qb, 0, none⟩ = some (.slice a1 l1 c1) ∧ W.cell? ⟨qb, 1, none⟩ = some (.int .i64 qt) ∧ W.cell? ⟨qb, 2, none⟩ = some (.slice a2 l2 c2) ∧ W.cell? ⟨qb, 3, none⟩ = some (.slice a3 l3 c3) := fun W hb => by
    have e := (hb.block qb (Array.getElem?_eq_some_iff.1 hbx).1).trans hbx
    simp [World.cell?, e]
  obtain ⟨m0, m1, m2, m3⟩ := hqc W5 (Below.refl _ _)
  go_wp2_with (first
    | (go_at_call 11; refine HS.out.mono ?_; rintro e w6 ⟨rfl, b6⟩; clear m0 m1 m2 m3; obtain ⟨m0, m1, m2, m3⟩ := hqc w6 b6)
    | (go_at_call 12; refine (HCk.out w6 b6).mono ?_; rintro e w7 ⟨rfl, b7⟩))
  go_ret
  exact ⟨rfl, (hx5.step (b6.trans (b7.mono b6.size))).below⟩
end Go.Proofs.YtfconbblnmbnpaeDoor
namespace Go.Proofs.YtfconbblnmbnpaeDoor
open Go.RowKit

/-- Behind the boxes of two plans. -/
def Bxt (w W : World) (pc : Value) (pn : Int) (ps pw qc : Value) (qn : Int) (qs qw : Value) : Prop := Below (w.heap.size + 2) ((w.alloc (.cells #[pc, .int .i64 pn, ps, pw] 26)).alloc (.cells #[qc, .int .i64 qn, qs, qw] 26)) W
section
variable {w W : World} {pc ps pw qc qs qw : Value} {pn qn : Int}
theorem Bxt.first (w : World) (pc : Value) (pn : Int) (ps pw qc : Value) (qn : Int) (qs qw : Value) : Bxt w ((w.alloc (.cells #[pc, .int .i64 pn, ps, pw] 26)).alloc (.cells #[qc, .int .i64 qn, qs, qw] 26)) pc pn ps pw qc qn qs qw := Below.refl _ _
theorem Bxt.size (h : Bxt w W pc pn ps pw qc qn qs qw) : w.heap.size + 2 ≤ W.heap.size := by
  have := Below.size h
  simpa using this
theorem Bxt.step {W' : World} (h : Bxt w W pc pn ps pw qc qn qs qw) (hb : Below W.heap.size W W') : Bxt w W' pc pn ps pw qc qn qs qw := Below.trans h (hb.mono h.size)
theorem Bxt.set {W' : World} (h : Bxt w W pc pn ps pw qc qn qs qw) {M : List Nat} (hb : KTouch M W W') (hM : ∀ m ∈ M, w.heap.size + 2 ≤ m) : Bxt w W' pc pn ps pw qc qn qs qw := Below.trans h (hb.below hM h.size)
theorem Bxt.below (h : Bxt w W pc pn ps pw qc qn qs qw) : Below w.heap.size w W := (((Below.refl _ _).alloc (Nat.le_refl _) _).alloc (by simp) _).trans (Below.mono h (Nat.le_add_right _ _))
theorem Bxt.cs (h : Bxt w W pc pn ps pw qc qn qs qw) : W.cell? ⟨w.heap.size, 0, none⟩ = some pc ∧ W.cell? ⟨w.heap.size, 1, none⟩ = some (.int .i64 pn) ∧ W.cell? ⟨w.heap.size, 2, none⟩ = some ps ∧ W.cell? ⟨w.heap.size, 3, none⟩ = some pw :=
  ⟨(Below.cell h (p := ⟨w.heap.size, 0, none⟩) (by simp)).trans (by simp), (Below.cell h (p := ⟨w.heap.size, 1, none⟩) (by simp)).trans (by simp), (Below.cell h (p := ⟨w.heap.size, 2, none⟩) (by simp)).trans (by simp), (Below.cell h (p := ⟨w.heap.size, 3, none⟩) (by simp)).trans (by simp)⟩
theorem Bxt.ds (h : Bxt w W pc pn ps pw qc qn qs qw) : W.cell? ⟨w.heap.size + 1, 0, none⟩ = some qc ∧ W.cell? ⟨w.heap.size + 1, 1, none⟩ = some (.int .i64 qn) ∧ W.cell? ⟨w.heap.size + 1, 2, none⟩ = some qs ∧ W.cell? ⟨w.heap.size + 1, 3, none⟩ = some qw :=
  ⟨(Below.cell h (p := ⟨w.heap.size + 1, 0, none⟩) (by simp)).trans (by simp), (Below.cell h (p := ⟨w.heap.size + 1, 1, none⟩) (by simp)).trans (by simp), (Below.cell h (p := ⟨w.heap.size + 1, 2, none⟩) (by simp)).trans (by simp), (Below.cell h (p := ⟨w.heap.size + 1, 3, none⟩) (by simp)).trans (by simp)⟩
end
/-- From behind: one state more. -/
theorem partAt_drop {l m : List St} {j : Nat} {s t : St} (hl : l[j]? = some s) (hm : m[j]? = some t) : partAt (l.drop j) (m.drop j) j = if likeS s t = true then partAt (l.drop (j + 1)) (m.drop (j + 1)) (j + 1) else (j : Int) := by
  obtain ⟨h1, rfl⟩ := List.getElem?_eq_some_iff.1 hl
  obtain ⟨h2, rfl⟩ := List.getElem?_eq_some_iff.1 hm
  rw [List.drop_eq_getElem_cons h1, List.drop_eq_getElem_cons h2, partAt]
theorem partAt_end {l m : List St} {j : Nat} (hl : l.length ≤ j) : partAt (l.drop j) (m.drop j) j = -1 := by
  rw [List.drop_eq_nil_of_le hl]
  cases m.drop j <;> rfl
/-- What the law does with its n. -/
def nnP (n : Int) : Int := if 200 < n ∧ n ≤ 2000 then n % 200 else n
def badL (p q : PD) (n r : Int) : Prop := r < 0 ∨ (p.code.length : Int) ≤ r ∨ (q.code.length : Int) ≤ r ∨ n < 0 ∨ 2000 < n
instance (p q : PD) (n r : Int) : Decidable (badL p q n r) := by unfold badL; infer_instance
/-- What is wrong with two plans. -/
def twoE (p q : PD) : Int := if plchk p = 0 then plchk q else plchk p
theorem likeE_two (p q : PD) (n r : Int) : likeE p q n r = if twoE p q = 0 ∧ badL p q n r then 1 else twoE p q := by
  unfold likeE twoE badL
  by_cases h : plchk p = 0
  · by_cases h2 : plchk q = 0
    · rw [if_pos h, if_pos h2, if_pos h, h2]
      by_cases h3 : r < 0 ∨ (p.code.length : Int) ≤ r ∨ (q.code.length : Int) ≤ r ∨ n < 0 ∨ 2000 < n
      · rw [if_pos h3, if_pos ⟨rfl, h3⟩]
      · rw [if_neg h3, if_neg (fun e => h3 e.2)]
    · rw [if_pos h, if_neg h2, if_pos h, if_neg (fun e => h2 e.1)]
  · rw [if_neg h, if_neg h, if_neg (fun e => h e.1)]
theorem likeE_zero {p q : PD} {n r : Int} (h : likeE p q n r = 0) : plchk p = 0 ∧ plchk q = 0 ∧ 0 ≤ r ∧ r < (p.code.length : Int) ∧ r < (q.code.length : Int) ∧ 0 ≤ n ∧ n ≤ 2000 := by
  unfold likeE at h
  split at h
  · rename_i h1
    split at h
    · rename_i h2
      split at h
      · omega
      · exact ⟨h1, h2, by omega, by omega, by omega, by omega, by omega⟩
    · omega
  · omega
end Go.Proofs.YtfconbblnmbnpaeDoor
namespace Go.Proofs.YtfconbblnmbnpaeDoor
open Go.RowKit

/-- The plan is being made: codes so far. -/
structure QP (b0 : Nat) (w1 W : World) (p : PD) (R : Nat → Bool) (kb : Nat) (vs vw cv : Value) (us : List Value) : Prop where
  tk : KTouch [kb] w1 W
  kl : kb < w1.heap.size
  k0 : b0 ≤ kb
  blk : W.heap[kb]? = some (.cells #[cv, .int .i64 p.ticks, vs, vw] 26 (0, 0))
  own : W.ownsRow w1.heap.size 39 1 cv us.length us
  ops : ∀ (i : Nat) u c, us[i]? = some u → p.code[i]? = some c → Ops W u (if R i = true then c else restC)
  ap : ∀ u ∈ us, ∀ g, u.ownBlock = some g → (g < b0 ∨ w1.heap.size ≤ g) ∧ g < W.heap.size ∧ cv.ownBlock ≠ some g
  len : us.length ≤ p.code.length
theorem QP.cs {b0 : Nat} {w1 W : World} {p : PD} {R : Nat → Bool} {kb : Nat} {vs vw cv : Value} {us : List Value} (h : QP b0 w1 W p R kb vs vw cv us) : W.cell? ⟨kb, 0, none⟩ = some cv ∧ W.cell? ⟨kb, 1, none⟩ = some (.int .i64 p.ticks) ∧ W.cell? ⟨kb, 2, none⟩ = some vs ∧ W.cell? ⟨kb, 3, none⟩ = some vw ∧ W.frozen? ⟨kb, 0, none⟩ = false := by
  have e := h.blk
  simp [World.cell?, World.frozen?, e]
/-- One code more: one of the plan's, or one that rests. -/
theorem QP.more {b0 : Nat} {w1 W w2 wa : World} {p : PD} {R : Nat → Bool} {kb : Nat} {vs vw cv cv' u : Value} {us : List Value} {c : List O3} (h : QP b0 w1 W p R kb vs vw cv us) (hc : p.code[us.length]? = some c) (b2 : Below W.heap.size W w2) (hu : Ops w2 u (if R us.length = true then c else restC))
    (hua : ∀ g, u.ownBlock = some g → (g < b0 ∨ W.heap.size ≤ g) ∧ g < w2.heap.size)
    (hg : (w2.alloc (.cells #[u] 39)).grownBy wa cv.ownBlock) (hown : wa.ownsRow w1.heap.size 39 1 cv' (us.length + 1) (us ++ [u])) (hnew : ∀ g, cv'.ownBlock = some g → cv.ownBlock = some g ∨ w2.heap.size + 1 ≤ g) : QP b0 w1 (wa.setCell ⟨kb, 0, none⟩ cv') p R kb vs vw cv' (us ++ [u]) := by
  have b3 : Below W.heap.size W (w2.alloc (.cells #[u] 39)) := b2.alloc b2.size _
  have hs3 : (w2.alloc (.cells #[u] 39)).heap.size = w2.heap.size + 1 := by simp
  have hs := h.tk.size
  have hs2 := b2.size
  have hga := hg.size
  rw [hs3] at hga
  have hkl := h.kl
  have hk0 := h.k0
  have hcr : ∀ k, cv.ownBlock = some k → w1.heap.size ≤ k ∧ k < W.heap.size := fun k hk => h.own.lt k hk
  have hset : ∀ k, k ≠ kb → (wa.setCell ⟨kb, 0, none⟩ cv').heap[k]? = wa.heap[k]? := fun k hk => Below.heap_setCell _ _ _ _ hk
  have hsz2 : (wa.setCell ⟨kb, 0, none⟩ cv').heap.size = wa.heap.size := by simp
  have hold : ∀ k, k < w2.heap.size → k ≠ kb → cv.ownBlock ≠ some k → (wa.setCell ⟨kb, 0, none⟩ cv').heap[k]? = w2.heap[k]? := fun k h2 h3 h4 => (hset k h3).trans ((hg.block k (by rw [hs3]; omega) (fun e => h4 e.symm)).trans (((Below.refl _ w2).alloc (Nat.le_refl _) _).block k h2))
  have hune : ∀ g, u.ownBlock = some g → g ≠ kb ∧ cv.ownBlock ≠ some g := fun g hg' => by
    obtain ⟨h1, _⟩ := hua g hg'
    refine ⟨by omega, fun e => ?_⟩
    have := hcr g e
    omega
  refine ⟨⟨(hg.os.trans (b3.os.trans h.tk.os)), (hg.tape.trans (b3.tape.trans h.tk.tape)), (hg.output.trans (b3.output.trans h.tk.output)), by omega, fun k hk hm => ?_⟩, h.kl, h.k0, ?_, ?_, fun i x d hx hd => ?_, fun x hx g hgx => ?_, ?_⟩
  · have hkk : k ≠ kb := fun e => hm (by simp [e])
    refine (hset k hkk).trans ((hg.block k (by rw [hs3]; omega) (fun e => ?_)).trans ((b3.block k (by omega)).trans (h.tk.block k hk hm)))
    have := (hcr k e.symm).1
    omega
  · have hlt : kb < W.heap.size := by omega
    have e : wa.heap[kb]? = some (.cells #[cv, .int .i64 p.ticks, vs, vw] 26 (0, 0)) := (hg.block kb (by rw [hs3]; omega) (fun e => by have := (hcr kb e.symm).1; omega)).trans ((b3.block kb hlt).trans h.blk)
    simp [World.setCell, Array.getElem?_modify, e]
  · rw [List.length_append]
    exact ownsRow_setCell_below hown (a := ⟨kb, 0, none⟩) h.kl cv'
  · by_cases hi : i < us.length
    · rw [List.getElem?_append_left hi] at hx
      have ho := h.ops i x d hx hd
      refine (ho.all b2).block (fun k hk he => ?_) (by omega)
      obtain ⟨h1, h2, h3⟩ := h.ap x (List.mem_of_getElem? hx) k he
      exact hold k hk (by omega) h3
    · have hlt := (List.getElem?_eq_some_iff.1 hx).1
      rw [List.length_append, List.length_singleton] at hlt
      obtain rfl : i = us.length := by omega
      rw [List.getElem?_append_right (Nat.le_refl _), Nat.sub_self] at hx
      simp only [List.getElem?_cons_zero, Option.some.injEq] at hx
      subst hx
      rw [hc] at hd
      obtain rfl := Option.some.inj hd
      exact hu.block (fun k hk he => hold k hk (hune k he).1 (hune k he).2) (by omega)
  · rcases List.mem_append.1 hx with h1 | h1
    · obtain ⟨h2, h3, h4⟩ := h.ap x h1 g hgx
      refine ⟨h2, by omega, fun e => ?_⟩
      rcases hnew g e with h5 | h5
      · exact h4 h5
      · omega
    · rw [List.mem_singleton] at h1
      subst h1
      obtain ⟨h2, h3⟩ := hua g hgx
      refine ⟨by omega, by omega, fun e => ?_⟩
      rcases hnew g e with h5 | h5
      · exact (hune g hgx).2 h5
      · omega
  · rw [List.length_append, List.length_singleton]
    exact (List.getElem?_eq_some_iff.1 hc).1
/-- All of them, read elsewhere than in two blocks of the caller's. -/
theorem QP.cds {b0 : Nat} {w1 W W' : World} {p : PD} {R : Nat → Bool} {kb : Nat} {vs vw cv : Value} {us : List Value} (h : QP b0 w1 W p R kb vs vw cv us) (hl : us.length = p.code.length) {M : List Nat} (ht : KTouch M W W') (hM : ∀ m ∈ M, b0 ≤ m ∧ m < w1.heap.size) : Cds W' cv (purgeC R 0 p.code) := by
  have hrl := h.own.lt
  have hcs := @World.ownsRow.cells _ _ _ _ _ _ _ h.own
  have hlen : (purgeC R 0 p.code).length = us.length := by rw [purgeC_len, hl]
  rcases h.own.2 with ⟨rfl, h0⟩ | ⟨g, cap, cur, rfl, hge, _, hcap, _⟩
  · exact Or.inl ⟨List.eq_nil_of_length_eq_zero (by rw [hlen]; exact h0), _, _, rfl⟩
  · refine Or.inr ⟨g, 0, cap, by rw [hlen], by rw [hlen]; exact hcap, Nat.lt_of_lt_of_le (hrl g rfl).2 ht.size, fun i d hd => ?_⟩
    rw [purgeC_at] at hd
    obtain ⟨c, hc, hcd⟩ := Option.map_eq_some_iff.1 hd
    have hil : i < us.length := by rw [hl]; exact (List.getElem?_eq_some_iff.1 hc).1
    have hu : us[i]? = some us[i] := List.getElem?_eq_getElem hil
    have hcell := hcs rfl i _ hu
    rw [Addr.add_lit] at hcell
    refine ⟨us[i], (World.cell?_of_block (w := W) (a := ⟨g, _, none⟩) (ht.block g (hrl g rfl).2 (fun hm => ?_))).trans hcell, ?_⟩
    · have := (hM g hm).2
      omega
    · rw [← hcd, Nat.zero_add]
      refine (h.ops i _ c hu hc).block (fun k hk he => ht.block k hk (fun hm => ?_)) ht.size
      obtain ⟨h1, _, _⟩ := h.ap _ (List.mem_of_getElem? hu) k he
      have := hM k hm
      omega
theorem rest_ops {w : World} {k : Nat} (hk : k = w.heap.size) : Ops (w.alloc (.cells #[.int .i64 10, .int .i64 0, .int .i64 0] 38)) (.slice (some ⟨k, 0, none⟩) 1 1) restC := by
  subst hk
  refine Or.inr ⟨w.heap.size, 0, 1, rfl, by simp, fun i o ho => ?_⟩
  match i, ho with
  | 0, ho => simp [restC] at ho; subst ho; simp [go_sem]
  | i + 1, ho => simp [restC] at ho
end Go.Proofs.YtfconbblnmbnpaeDoor
