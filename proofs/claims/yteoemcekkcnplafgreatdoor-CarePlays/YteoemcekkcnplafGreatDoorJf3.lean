/-
  GClone, SgtMath, PurgeM, CareM, CarC: joined into one text.
-/
import Derived.Test.YteoemcekkcnplafGreatDoorJf2
import Derived.Deep.RegionLaw
import Derived.Deep.RegionWith
import Derived.Lib.SliceRun
import Derived.Test.YteoemcekkcnplafGreatDoorJf1
namespace Go.Proofs.YteoemcekkcnplafGreatDoor
open Go.RowKit

set_option maxRecDepth 100000 in
set_option maxHeartbeats 4000000 in
theorem clone_sp_nil (cap : Nat) (w : World) : Calls Tryz.prog 32 #[.slice none 0 cap] w fun e w' => e = .returned (.slice none 0 0) ∧ w' = w := by
  have q : ∀ (w : World) (a : Option Addr) (n c n' c' : Nat), (binOp .eql 23 (.slice a n c) (.slice none n' c')).run Tryz.prog w = .ok (.bool a.isNone) w := fun w a n c n' c' => Lib.run_eql_slice_nil w _ _ a n c n' c' Tryz.underlying23
  go_enter Tryz.func32, Tryz.ntmps32
  go_wp2
  go_ret
  exact ⟨rfl, rfl⟩
set_option maxRecDepth 100000 in
set_option maxHeartbeats 4000000 in
theorem clone_sp_some (ad : Addr) (cap : Nat) (l : List (Int × Int × Int)) (w : World) (hx : l.length ≤ 1000) (hc : ∀ j u, (spCells l)[j]? = some u → w.cell? (ad.add j) = some u) :
    Calls Tryz.prog 32 #[.slice (some ad) l.length cap] w fun e w' => ∃ v', e = .returned v' ∧ w'.ownsRow w.heap.size 61 3 v' l.length (spCells l) ∧ Below w.heap.size w w' := by
  obtain ⟨ii, hi, hz0, hz1, hz2⟩ := info_parts infoSp
  have q : ∀ (w : World) (a : Option Addr) (n c n' c' : Nat), (binOp .eql 23 (.slice a n c) (.slice none n' c')).run Tryz.prog w = .ok (.bool a.isNone) w := fun w a n c n' c' => Lib.run_eql_slice_nil w _ _ a n c n' c' Tryz.underlying23
  have HC : Hid (∀ j u, (spCells l)[j]? = some u → w.cell? (ad.add j) = some u) := hc
  clear hc
  go_enter Tryz.func32, Tryz.ntmps32
  go_wp2_with (at_builtin; refine wpList_append_at _ rfl _ _ 23 rfl w.heap.size 61 ii _ 3 24 Tryz.underlying23 hi hz0 hz1 hz2 rfl (by decide) _ _ _ rfl (World.ownsRow_made w #[] 0 (Nat.le_refl _) (Nat.zero_le _) rfl) ad l.length cap (spCells l) rfl ?c0A ?c1A ?c2A ?c3A ?c4A ?c5A ?_)
  case c0A => exact spCells_len l
  case c1A =>
    intro j u hj
    have h := HC.out j u hj
    exact (((Below.refl _ w).alloc (Nat.le_refl _) _).cell (p := ad.add j) (World.block_lt_of_cell? w _ h)).trans h
  case c2A => exact spCells_one l
  case c3A => unfold maxLen; omega
  case c4A => omega
  case c5A => simp
  intro v1 w2 own1 hg1 hat1
  clear q
  go_wp2
  go_ret
  refine ⟨v1, rfl, by simpa using own1, ((Below.refl _ w).alloc (Nat.le_refl _) _).grown hg1 (by simp) (by intro k hk; simp [Value.ownBlock] at hk; omega)⟩
theorem clone_sps (l : List S3) (v : Value) (w : World) (h : Sps w v l) (hx : l.length ≤ 1000) :
    Calls Tryz.prog 32 #[v] w fun e w' => ∃ v', e = .returned v' ∧ w'.ownsRow w.heap.size 61 3 v' l.length (spCells l) ∧ Below w.heap.size w w' := by
  rcases h with ⟨rfl, ao, cap, rfl⟩ | ⟨b, off, cap, rfl, hcap, hlt, hc⟩
  · cases ao with
    | none =>
      refine (clone_sp_nil cap w).mono ?_
      rintro e w' ⟨rfl, rfl⟩
      exact ⟨_, rfl, World.ownsRow_nil _ _ _ _, Below.refl _ _⟩
    | some ad => exact clone_sp_some ad cap [] w (Nat.zero_le _) (fun j u hj => by simp [spCells] at hj)
  · exact clone_sp_some ⟨b, off, none⟩ cap l w hx (trio_at l off hc)
end Go.Proofs.YteoemcekkcnplafGreatDoor
namespace Go.Proofs.YteoemcekkcnplafGreatDoor

/-- A wire that leads to a room, or comes from it. -/
def atR (r : Int) (l : LnD) : Bool := decide (l.w.1 = r) || decide (l.w.2.1 = r)
/-- What a room sees of a kernel's lines. -/
def seesK (k : KD) (r : Int) : List (List Int × Int) := (k.lines.filter (atR r)).map fun l => (l.xs, l.ls)
/-- A room's states ahead of each of n ticks, and behind the last one. -/
def statesK (p : PD) (n r : Nat) : List St := (List.range (n + 1)).map fun t => (kT p t).rooms.getD r stNew
theorem statesK_len (p : PD) (n r : Nat) : (statesK p n r).length = n + 1 := by simp [statesK]
theorem statesK_zero (p : PD) (r : Nat) : statesK p 0 r = [(newK p).rooms.getD r stNew] := by simp [statesK, kT]
theorem statesK_succ (p : PD) (n r : Nat) : statesK p (n + 1) r = statesK p n r ++ [(kT p (n + 1)).rooms.getD r stNew] := by
  unfold statesK
  rw [List.range_succ, List.map_append]
  rfl
theorem statesK_first (p : PD) (n r : Nat) : (statesK p n r)[0]? = some stNew := by
  have h : (newK p).rooms.getD r stNew = stNew := by
    unfold newK
    simp only [List.getD, List.getElem?_map]
    cases p.code[r]? <;> rfl
  rw [← h]
  simp [statesK, kT]
/-- What is wrong with a run. -/
def runE (p : PD) (n r : Int) : Int := if plchk p = 0 then (if r < 0 ∨ (p.code.length : Int) ≤ r ∨ n < 0 ∨ 2000 < n then 1 else 0) else plchk p
/-- Two states that look the same. -/
structure StSame (s t : St) : Prop where
  p : s.p = t.p
  c : ∀ i, i < 6 → s.c i = t.c i
  f : s.f = t.f
theorem StSame.refl (s : St) : StSame s s := ⟨rfl, fun _ _ => rfl, rfl⟩
theorem cells_same {o : O3} {c d : Nat → Int} {g : Int} {b : Bool} (h : ∀ i, i < 6 → c i = d i) (hA : o.2.1.toNat < 6) (hB : o.1 = 2 ∨ o.1 = 3 ∨ o.1 = 4 ∨ o.1 = 5 → o.2.2.toNat < 6) : ∀ i, i < 6 → cellsF o c g b i = cellsF o d g b i := fun i hi => by
  have hu : ∀ v, upd c o.2.1.toNat v i = upd d o.2.1.toNat v i := fun v => by
    unfold upd
    split
    · rfl
    · exact h i hi
  unfold cellsF
  split
  · exact hu _
  split
  · rename_i h2; rw [h _ (hB (by omega))]; exact hu _
  split
  · rename_i h3; rw [h _ hA, h _ (hB (by omega))]; exact hu _
  split
  · rename_i h4; rw [h _ hA, h _ (hB (by omega))]; exact hu _
  split
  · rename_i h5; rw [h _ hA, h _ (hB (by omega))]; exact hu _
  split
  · split
    · exact hu _
    · exact h i hi
  · exact h i hi
theorem step_same {o : O3} {s t : St} {n : Nat} {g : Int} {b : Bool} (h : StSame s t) (hA : o.2.1.toNat < 6) (hB : o.1 = 2 ∨ o.1 = 3 ∨ o.1 = 4 ∨ o.1 = 5 → o.2.2.toNat < 6) : StSame (stepF o s n g b) (stepF o t n g b) := by
  unfold stepF
  rw [← h.f]
  split
  · exact h
  · refine ⟨?_, cells_same h.c hA hB, rfl⟩
    show nextF o s n b = nextF o t n b
    unfold nextF
    rw [h.p, h.c _ hA]
theorem small_args {p : PD} {k : KD} {r : Nat} {c : List O3} {s : St} {o : O3} (h : Turn p k r c s o) : o.2.1.toNat < 6 ∧ (o.1 = 2 ∨ o.1 = 3 ∨ o.1 = 4 ∨ o.1 = 5 → o.2.2.toNat < 6) := by
  have hr := ok3_range h.ok
  have hb := (bA_le o.1).2
  refine ⟨by omega, fun hh => ?_⟩
  rcases hh with e | e | e | e <;> simp [e, bB] at hr <;> omega
/-- One turn of a room that sees the same. -/
theorem turn_same {p : PD} {k m : KD} {r : Nat} {c : List O3} {s t : St} {o : O3} (hk : Turn p k r c s o) (hm : Turn p m r c t o) (hs : StSame s t) (hl : o.1 = 8 ∨ o.1 = 9 → ∃ l, k.lines[o.2.2.toNat]? = some l ∧ m.lines[o.2.2.toNat]? = some l) (hrk : r < k.rooms.length) (hrm : r < m.rooms.length) :
    (turnK p k r).2 = (turnK p m r).2 ∧ ∃ s' t', (turnK p k r).1.rooms[r]? = some s' ∧ (turnK p m r).1.rooms[r]? = some t' ∧ StSame s' t' := by
  obtain ⟨hA, hB⟩ := small_args hk
  have hst : ∀ g b, StSame (stepF o s c.length g b) (stepF o t c.length g b) := fun g b => step_same hs hA hB
  cases hf : s.f with
  | true =>
    have hf' : t.f = true := by rw [← hs.f]; exact hf
    rw [turn_failed hk hf, turn_failed hm hf']
    exact ⟨by rw [hs.p], s, t, hk.hs, hm.hs, hs⟩
  | false =>
    have hf' : t.f = false := by rw [← hs.f]; exact hf
    by_cases h9 : o.1 = 9
    · obtain ⟨l, h1, h2⟩ := hl (Or.inr h9)
      cases hh : (headL l).2 with
      | true =>
        rw [turn_takes hk hf h9 h1 hh, turn_takes hm hf' h9 h2 hh]
        exact ⟨by rw [hs.p], _, _, List.getElem?_set_self hrk, List.getElem?_set_self hrm, hst _ _⟩
      | false =>
        rw [turn_waits hk hf h9 h1 hh, turn_waits hm hf' h9 h2 hh]
        exact ⟨by rw [hs.p], _, _, List.getElem?_set_self hrk, List.getElem?_set_self hrm, hst _ _⟩
    · by_cases h8 : o.1 = 8
      · obtain ⟨l, h1, h2⟩ := hl (Or.inl h8)
        rw [turn_sends hk hf h8 h1, turn_sends hm hf' h8 h2]
        exact ⟨by rw [hs.p], _, _, List.getElem?_set_self hrk, List.getElem?_set_self hrm, hst _ _⟩
      · rw [turn_else hk hf h8 h9, turn_else hm hf' h8 h9]
        exact ⟨by rw [hs.p], _, _, List.getElem?_set_self hrk, List.getElem?_set_self hrm, hst _ _⟩
/-- What is seen the same is the same line. -/
theorem sees_line : ∀ {ls ms : List LnD} {ws : List W4} {r : Int}, ls.length = ws.length → ms.length = ws.length → (∀ (i : Nat) l x, ls[i]? = some l → ws[i]? = some x → l.w = x) → (∀ (i : Nat) l x, ms[i]? = some l → ws[i]? = some x → l.w = x) →
    ((ls.filter (atR r)).map fun l => (l.xs, l.ls)) = ((ms.filter (atR r)).map fun l => (l.xs, l.ls)) → ∀ (i : Nat) x, ws[i]? = some x → x.1 = r ∨ x.2.1 = r → ls[i]? = ms[i]?
  | [], [], _, _, _, _, _, _, _, i, x, _, _ => by simp
  | [], _ :: _, ws, _, h1, h2, _, _, _, _, _, _, _ => by simp at h1 h2; omega
  | _ :: _, [], ws, _, h1, h2, _, _, _, _, _, _, _ => by simp at h1 h2; omega
  | l :: ls, m :: ms, [], _, h1, _, _, _, _, _, _, _, _ => by simp at h1
  | l :: ls, m :: ms, y :: ws, r, h1, h2, h3, h4, h5, i, x, hx, hr => by
    have e1 : l.w = y := h3 0 l y rfl rfl
    have e2 : m.w = y := h4 0 m y rfl rfl
    have ea : atR r m = atR r l := by unfold atR; rw [e1, e2]
    have rest : ((ls.filter (atR r)).map fun l => (l.xs, l.ls)) = ((ms.filter (atR r)).map fun l => (l.xs, l.ls)) ∧ (atR r l = true → l = m) := by
      cases hb : atR r l with
      | true =>
        rw [List.filter_cons_of_pos (by exact hb), List.filter_cons_of_pos (by rw [ea]; exact hb)] at h5
        simp only [List.map_cons, List.cons.injEq, Prod.mk.injEq] at h5
        refine ⟨h5.2, fun _ => ?_⟩
        obtain ⟨lw, lx, ll⟩ := l
        obtain ⟨mw, mx, ml⟩ := m
        simp only at e1 e2 h5
        rw [e1, e2, h5.1.1, h5.1.2]
      | false =>
        rw [List.filter_cons_of_neg (by rw [hb]; decide), List.filter_cons_of_neg (by rw [ea, hb]; decide)] at h5
        exact ⟨h5, fun h => by cases h⟩
    cases i with
    | zero =>
      simp only [List.getElem?_cons_zero, Option.some.injEq] at hx ⊢
      subst hx
      refine rest.2 ?_
      unfold atR
      rw [e1]
      rcases hr with hr | hr <;> simp [hr]
    | succ i =>
      simp only [List.getElem?_cons_succ] at hx ⊢
      exact sees_line (by simpa using h1) (by simpa using h2) (fun j l' x' hl hx => h3 (j + 1) l' x' (by simpa using hl) (by simpa using hx)) (fun j l' x' hl hx => h4 (j + 1) l' x' (by simpa using hl) (by simpa using hx)) rest.1 i x hx hr
/-- WHO SEES THE SAME DOES THE SAME: one tick. -/
theorem tick_same {p : PD} {k m : KD} (hp : plchk p = 0) (hk : KOk p k) (hm : KOk p m) (ht : k.time = m.time) {r : Nat} (hr : r < p.code.length) {s t : St} (hs : k.rooms[r]? = some s) (htt : m.rooms[r]? = some t) (hst : StSame s t) (hsee : seesK k r = seesK m r) :
    (tickK p p.spans k).2.2.1 = (tickK p p.spans m).2.2.1 ∧ ((tickK p p.spans k).2.2.1 = (r : Int) → (tickK p p.spans k).2 = (tickK p p.spans m).2 ∧ ∃ s' t', (tickK p p.spans k).1.rooms[r]? = some s' ∧ (tickK p p.spans m).1.rooms[r]? = some t' ∧ StSame s' t') := by
  have ew : whoK p k = whoK p m := by unfold whoK; rw [ht]
  refine ⟨by rw [(tick_told p k).2, (tick_told p m).2, ew], fun hw => ?_⟩
  rw [(tick_told p k).2] at hw
  have hwm : whoK p m = r := by rw [← ew]; exact hw
  have e1 : tickK p p.spans k = ((turnK p k r).1, k.time, (r : Int), (turnK p k r).2.1, (turnK p k r).2.2) := by
    unfold whoK at hw
    unfold tickK
    simp only [hw]
    rw [if_neg (by omega), Int.toNat_natCast]
  have e2 : tickK p p.spans m = ((turnK p m r).1, m.time, (r : Int), (turnK p m r).2.1, (turnK p m r).2.2) := by
    unfold whoK at hwm
    unfold tickK
    simp only [hwm]
    rw [if_neg (by omega), Int.toNat_natCast]
  obtain ⟨c, s0, o, tk⟩ := turn_of hp hk hr
  obtain rfl : s = s0 := Option.some.inj (hs.symm.trans tk.hs)
  have tm : Turn p m r c t o := ⟨tk.hc, htt, by rw [← hst.p]; exact tk.ho, tk.ck, hm.rooms r c t tk.hc htt, tk.ok⟩
  have hl : o.1 = 8 ∨ o.1 = 9 → ∃ l, k.lines[o.2.2.toNat]? = some l ∧ m.lines[o.2.2.toNat]? = some l := fun ho => by
    have hx : ∃ x, p.wires[o.2.2.toNat]? = some x ∧ (x.1 = (r : Int) ∨ x.2.1 = (r : Int)) := by
      have := op_wire hp tk.hc (List.mem_of_getElem? tk.ho)
      rcases ho with h8 | h9
      · obtain ⟨x, h1, h2⟩ := this.1 h8
        exact ⟨x, h1, Or.inl h2⟩
      · obtain ⟨x, h1, h2⟩ := this.2 h9
        exact ⟨x, h1, Or.inr h2⟩
    obtain ⟨x, hx1, hx2⟩ := hx
    have hlt : o.2.2.toNat < k.lines.length := by rw [hk.ll]; exact (List.getElem?_eq_some_iff.1 hx1).1
    have hl1 : k.lines[o.2.2.toNat]? = some k.lines[o.2.2.toNat] := List.getElem?_eq_getElem hlt
    have := sees_line hk.ll hm.ll (fun i l x h1 h2 => (hk.lines i l x h1 h2).w) (fun i l x h1 h2 => (hm.lines i l x h1 h2).w) hsee _ x hx1 hx2
    exact ⟨_, hl1, by rw [← this]; exact hl1⟩
  have hrl : r < k.rooms.length := by rw [hk.rl]; exact hr
  have hrm : r < m.rooms.length := by rw [hm.rl]; exact hr
  obtain ⟨q1, q2⟩ := turn_same tk tm hst hl hrl hrm
  rw [e1, e2]
  refine ⟨?_, q2⟩
  rw [ht, q1]
end Go.Proofs.YteoemcekkcnplafGreatDoor
namespace Go.Proofs.YteoemcekkcnplafGreatDoor

/-- Code that rests. -/
def restC : List O3 := [(10, 0, 0)]
/-- Codes of which all but some rest. -/
def purgeC (R : Nat → Bool) : Nat → List (List O3) → List (List O3)
  | _, [] => []
  | i, c :: l => (if R i = true then c else restC) :: purgeC R (i + 1) l
def purgeP (p : PD) (R : Nat → Bool) : PD := ⟨purgeC R 0 p.code, p.ticks, p.spans, p.wires⟩
theorem purgeC_len (R : Nat → Bool) : ∀ (i : Nat) (l : List (List O3)), (purgeC R i l).length = l.length
  | _, [] => rfl
  | i, c :: l => by simp [purgeC, purgeC_len R (i + 1) l]
theorem purgeC_at (R : Nat → Bool) : ∀ (i : Nat) (l : List (List O3)) (j : Nat), (purgeC R i l)[j]? = (l[j]?).map fun c => if R (i + j) = true then c else restC
  | _, [], j => by simp [purgeC]
  | i, c :: l, 0 => by simp [purgeC]
  | i, c :: l, j + 1 => by
    simp only [purgeC, List.getElem?_cons_succ]
    rw [purgeC_at R (i + 1) l j, show i + 1 + j = i + (j + 1) by omega]
theorem rest_chk : (chk restC).2 = 0 := by decide +kernel
theorem rest_ports (ws : List W4) (i : Nat) : portsB ws i restC = false := by
  have h8 : wiresB 8 restC = [] := by decide +kernel
  have h9 : wiresB 9 restC = [] := by decide +kernel
  unfold portsB
  rw [h8, h9]
  rfl
theorem purge_codes (R : Nat → Bool) : ∀ (i : Nat) (l : List (List O3)), codesE l = 0 → codesE (purgeC R i l) = 0
  | _, [], _ => rfl
  | i, c :: l, h => by
    unfold codesE at h
    have hc : (chk c).2 = 0 ∧ codesE l = 0 := by
      split at h
      · rename_i h1
        exact ⟨h1, h⟩
      · rename_i h1
        exact absurd h h1
    have hq : (chk (if R i = true then c else restC)).2 = 0 := by
      split
      · exact hc.1
      · exact rest_chk
    show codesE ((if R i = true then c else restC) :: purgeC R (i + 1) l) = 0
    unfold codesE
    rw [if_pos hq]
    exact purge_codes R (i + 1) l hc.2
theorem purge_ports (R : Nat → Bool) (ws : List W4) : ∀ (i : Nat) (l : List (List O3)), portsAny ws i l = false → portsAny ws i (purgeC R i l) = false
  | _, [], _ => rfl
  | i, c :: l, h => by
    rw [portsAny, Bool.or_eq_false_iff] at h
    show portsAny ws i ((if R i = true then c else restC) :: purgeC R (i + 1) l) = false
    rw [portsAny, Bool.or_eq_false_iff]
    refine ⟨?_, purge_ports R ws (i + 1) l h.2⟩
    split
    · exact h.1
    · exact rest_ports ws i
/-- A plan that is right is right without those. -/
theorem purge_right {p : PD} (R : Nat → Bool) (h : plchk p = 0) : plchk (purgeP p R) = 0 := by
  obtain ⟨h1, h2, h3, h4, h5, h6, h7, h8⟩ := plchk_zero h
  unfold plchk purgeP
  simp only [purgeC_len]
  rw [if_neg (by omega), if_neg h2, if_neg (by simpa using h3), if_neg (by simpa using h4), if_neg (by rw [h5]; decide), if_neg (by rw [h6]; decide), if_neg (by simpa using purge_codes R 0 _ h7), if_neg (by rw [purge_ports R _ 0 _ h8]; decide)]
/-- Who leads to one of them is one of them. -/
def ClosedR (ws : List W4) (R : Nat → Bool) : Prop := ∀ x ∈ ws, ∀ a b : Nat, x.1 = (a : Int) → x.2.1 = (b : Int) → R b = true → R a = true
theorem way_closed (ws : List W4) (r : Nat) (hw : ∀ x ∈ ws, ∀ b : Nat, x.2.1 = (b : Int) → b < 5) : ClosedR ws (fun i => way ws i r) := fun x hx a b ha hb hr => by
  have h1 : way ws a b = true := pm_edge _ 5 a b (by
    unfold edge
    rw [Bool.or_eq_true, List.any_eq_true]
    exact Or.inr ⟨x, hx, by simp [ha, hb]⟩)
  exact way_trans ws (hw x hx b hb) h1 hr
/-- Two kernels that are the same for some rooms, and the wires that lead to them. -/
structure Sim (ws : List W4) (R : Nat → Bool) (k m : KD) : Prop where
  time : k.time = m.time
  rooms : ∀ i, R i = true → k.rooms[i]? = m.rooms[i]?
  lines : ∀ (i : Nat) x (b : Nat), ws[i]? = some x → x.2.1 = (b : Int) → R b = true → k.lines[i]? = m.lines[i]?
theorem sim_new (p : PD) (R : Nat → Bool) : Sim p.wires R (newK p) (newK (purgeP p R)) := by
  refine ⟨rfl, fun i _ => ?_, fun i x b _ _ _ => rfl⟩
  simp only [newK, purgeP, List.getElem?_map, purgeC_at]
  cases p.code[i]? <;> rfl
/-- A room that is one of them does its turn alike. -/
theorem turn_sim {p q : PD} {R : Nat → Bool} {k m : KD} {r : Nat} {c : List O3} {s : St} {o : O3} (hp : plchk p = 0) (hk : KOk p k) (hm : KOk q m) (hqw : q.wires = p.wires) (tk : Turn p k r c s o) (tm : Turn q m r c s o) (hr : R r = true) (h : Sim p.wires R k m) : Sim p.wires R (turnK p k r).1 (turnK q m r).1 := by
  have hrk : r < k.rooms.length := (List.getElem?_eq_some_iff.1 tk.hs).1
  have hrm : r < m.rooms.length := (List.getElem?_eq_some_iff.1 tm.hs).1
  have ht : k.time + 1 = m.time + 1 := by rw [h.time]
  have hrooms : ∀ (s' : St) i, R i = true → (k.rooms.set r s')[i]? = (m.rooms.set r s')[i]? := fun s' i hi => by
    by_cases hir : r = i
    · subst hir
      rw [List.getElem?_set_self hrk, List.getElem?_set_self hrm]
    · rw [List.getElem?_set_ne hir, List.getElem?_set_ne hir]
      exact h.rooms i hi
  have hop := op_wire hp tk.hc (List.mem_of_getElem? tk.ho)
  have hset : ∀ (z : Nat) (l : LnD) (i : Nat), k.lines[z]? ≠ none → m.lines[z]? ≠ none → k.lines[i]? = m.lines[i]? → (k.lines.set z l)[i]? = (m.lines.set z l)[i]? := fun z l i h1 h2 h3 => by
    by_cases hzi : z = i
    · subst hzi
      have hz1 : z < k.lines.length := by
        rcases Nat.lt_or_ge z k.lines.length with h4 | h4
        · exact h4
        · exact absurd (List.getElem?_eq_none h4) h1
      have hz2 : z < m.lines.length := by
        rcases Nat.lt_or_ge z m.lines.length with h4 | h4
        · exact h4
        · exact absurd (List.getElem?_eq_none h4) h2
      rw [List.getElem?_set_self hz1, List.getElem?_set_self hz2]
    · rw [List.getElem?_set_ne hzi, List.getElem?_set_ne hzi]
      exact h3
  cases hf : s.f with
  | true =>
    rw [turn_failed tk hf, turn_failed tm hf]
    exact ⟨ht, h.rooms, h.lines⟩
  | false =>
    by_cases h9 : o.1 = 9
    · obtain ⟨x, hx, hxr⟩ := hop.2 h9
      have hlt : o.2.2.toNat < k.lines.length := by rw [hk.ll]; exact (List.getElem?_eq_some_iff.1 hx).1
      have hl1 : k.lines[o.2.2.toNat]? = some k.lines[o.2.2.toNat] := List.getElem?_eq_getElem hlt
      have hl2 : m.lines[o.2.2.toNat]? = some k.lines[o.2.2.toNat] := by rw [← h.lines _ x r hx hxr hr]; exact hl1
      generalize k.lines[o.2.2.toNat] = l at hl1 hl2
      cases hh : (headL l).2 with
      | true =>
        rw [turn_takes tk hf h9 hl1 hh, turn_takes tm hf h9 hl2 hh]
        exact ⟨ht, hrooms _, fun i y b hy hb hR => hset _ _ i (by rw [hl1]; simp) (by rw [hl2]; simp) (h.lines i y b hy hb hR)⟩
      | false =>
        rw [turn_waits tk hf h9 hl1 hh, turn_waits tm hf h9 hl2 hh]
        exact ⟨ht, hrooms _, h.lines⟩
    · by_cases h8 : o.1 = 8
      · obtain ⟨x, hx, hxr⟩ := hop.1 h8
        have hlt : o.2.2.toNat < k.lines.length := by rw [hk.ll]; exact (List.getElem?_eq_some_iff.1 hx).1
        have hlt2 : o.2.2.toNat < m.lines.length := by rw [hm.ll, hqw]; exact (List.getElem?_eq_some_iff.1 hx).1
        have hl1 : k.lines[o.2.2.toNat]? = some k.lines[o.2.2.toNat] := List.getElem?_eq_getElem hlt
        have hl2 : m.lines[o.2.2.toNat]? = some m.lines[o.2.2.toNat] := List.getElem?_eq_getElem hlt2
        rw [turn_sends tk hf h8 hl1, turn_sends tm hf h8 hl2]
        refine ⟨ht, hrooms _, fun i y b hy hb hR => ?_⟩
        by_cases hzi : o.2.2.toNat = i
        · subst hzi
          have he := h.lines _ y b hy hb hR
          rw [hl1, hl2] at he
          rw [Option.some.inj he]
          rw [List.getElem?_set_self hlt, List.getElem?_set_self hlt2]
        · show (k.lines.set _ _)[i]? = (m.lines.set _ _)[i]?
          rw [List.getElem?_set_ne hzi, List.getElem?_set_ne hzi]
          exact h.lines i y b hy hb hR
      · rw [turn_else tk hf h8 h9, turn_else tm hf h8 h9]
        exact ⟨ht, hrooms _, h.lines⟩
/-- WHO CANNOT TELL DOES NOT MATTER: one tick. -/
theorem sim_tick {p : PD} {R : Nat → Bool} {k m : KD} (hp : plchk p = 0) (hk : KOk p k) (hm : KOk (purgeP p R) m) (hc : ClosedR p.wires R) (hw0 : ∀ x ∈ p.wires, 0 ≤ x.1) (h : Sim p.wires R k m) : Sim p.wires R (tickK p p.spans k).1 (tickK (purgeP p R) (purgeP p R).spans m).1 := by
  have hq := purge_right R hp
  have ew : whoK (purgeP p R) m = whoK p k := by
    unfold whoK purgeP
    rw [h.time]
  have htime : (tickK p p.spans k).1.time = (tickK (purgeP p R) (purgeP p R).spans m).1.time := by rw [tick_time, tick_time, h.time]
  by_cases hneg : whoK p k < 0
  · have e1 : tickK p p.spans k = (⟨k.rooms, k.lines, k.time + 1⟩, k.time, whoK p k, 0, 0) := by
      unfold whoK at hneg ⊢
      unfold tickK
      simp only
      rw [if_pos hneg]
    have e2 : (tickK (purgeP p R) (purgeP p R).spans m).1 = ⟨m.rooms, m.lines, m.time + 1⟩ := by
      have hneg2 : whoK (purgeP p R) m < 0 := by rw [ew]; exact hneg
      unfold whoK at hneg2
      unfold tickK
      simp only
      rw [if_pos hneg2]
    rw [e1, e2]
    exact ⟨by rw [h.time], h.rooms, h.lines⟩
  · obtain ⟨rn, hrn⟩ : ∃ n : Nat, whoK p k = n := ⟨(whoK p k).toNat, by omega⟩
    have hrl : rn < p.code.length := by
      have := (who_room hp (k.time % p.ticks)).2
      unfold whoK at hrn
      rw [hrn] at this
      simpa using this (by omega)
    have hrl2 : rn < (purgeP p R).code.length := by
      show rn < (purgeC R 0 p.code).length
      rw [purgeC_len]
      exact hrl
    cases hR : R rn with
    | false =>
      refine ⟨htime, fun i hi => ?_, fun i x b hx hb hRb => ?_⟩
      · have hne : i ≠ rn := fun e => by rw [e, hR] at hi; cases hi
        rw [tick_room (p := p) (k := k) (r := i) (by rw [hrn]; omega), tick_room (p := purgeP p R) (k := m) (r := i) (by rw [ew, hrn]; omega)]
        exact h.rooms i hi
      · obtain ⟨a, ha⟩ : ∃ n : Nat, x.1 = n := ⟨x.1.toNat, by have := hw0 x (List.mem_of_getElem? hx); omega⟩
        have hRa := hc x (List.mem_of_getElem? hx) a b ha hb hRb
        have hne1 : a ≠ rn := fun e => by rw [e, hR] at hRa; cases hRa
        have hne2 : b ≠ rn := fun e => by rw [e, hR] at hRb; cases hRb
        rw [tick_line hp hk hx (by rw [ha, hrn]; omega) (by rw [hb, hrn]; omega), tick_line hq hm (show (purgeP p R).wires[i]? = some x from hx) (by rw [ha, ew, hrn]; omega) (by rw [hb, ew, hrn]; omega)]
        exact h.lines i x b hx hb hRb
    | true =>
      have e1 : (tickK p p.spans k).1 = (turnK p k rn).1 := by
        unfold whoK at hrn
        unfold tickK
        simp only [hrn]
        rw [if_neg (by omega), Int.toNat_natCast]
      have e2 : (tickK (purgeP p R) (purgeP p R).spans m).1 = (turnK (purgeP p R) m rn).1 := by
        have hrn2 : whoK (purgeP p R) m = rn := by rw [ew]; exact hrn
        unfold whoK at hrn2
        unfold tickK
        simp only [hrn2]
        rw [if_neg (by omega), Int.toNat_natCast]
      rw [e1, e2]
      obtain ⟨c, s, o, tk⟩ := turn_of hp hk hrl
      have hs2 : m.rooms[rn]? = some s := by rw [← h.rooms rn hR]; exact tk.hs
      have hc2 : (purgeP p R).code[rn]? = some c := by
        show (purgeC R 0 p.code)[rn]? = some c
        rw [purgeC_at, tk.hc, Nat.zero_add]
        simp [hR]
      have tm : Turn (purgeP p R) m rn c s o := ⟨hc2, hs2, tk.ho, tk.ck, tk.st, tk.ok⟩
      exact turn_sim hp hk hm rfl tk tm hR h
/-- .. all along. -/
theorem sim_all {p : PD} {R : Nat → Bool} (hp : plchk p = 0) (hc : ClosedR p.wires R) (hw0 : ∀ x ∈ p.wires, 0 ≤ x.1) : ∀ t, Sim p.wires R (kT p t) (kT (purgeP p R) t)
  | 0 => sim_new p R
  | t + 1 => sim_tick hp (kT_ok hp t) (kT_ok (purge_right R hp) t) hc hw0 (sim_all hp hc hw0 t)
theorem purge_states {p : PD} {r : Nat} (hp : plchk p = 0) (n : Nat) : statesK (purgeP p (fun i => way p.wires i r)) n r = statesK p n r := by
  have hrange : ∀ x ∈ p.wires, 0 ≤ x.1 ∧ x.1 < 5 ∧ 0 ≤ x.2.1 ∧ x.2.1 < 5 := fun x hx => by
    have h1 := (wschk_ok (plchk_zero hp).2.2.2.1).2 x hx
    unfold w4chk wchk at h1
    split at h1
    · rename_i h2
      omega
    · cases h1
  have h := sim_all hp (way_closed p.wires r (fun x hx b hb => by have := hrange x hx; omega)) (fun x hx => (hrange x hx).1)
  unfold statesK
  apply List.map_congr_left
  intro t _
  have := (h t).rooms r (way_self _ _)
  rw [List.getD, List.getD, this]
end Go.Proofs.YteoemcekkcnplafGreatDoor
namespace Go.Proofs.YteoemcekkcnplafGreatDoor

/-- A kernel, and how often each room was helped. -/
structure CD where
  k : KD
  ts : List Int
/-- What is wrong with a plan and its rules. -/
def ruleOut (n : Int) : Bool := decide (n < 0) || decide (2 < n)
def carE (p : PD) (what : List Int) (most : Int) : Int :=
  if plchk p = 0 then (if what.length = p.code.length then (if what.any ruleOut = true then 1 else if most < 0 ∨ 100 < most then 1 else 0) else 3) else plchk p
theorem carE_zero {p : PD} {what : List Int} {most : Int} (h : carE p what most = 0) : plchk p = 0 ∧ what.length = p.code.length ∧ (∀ n ∈ what, 0 ≤ n ∧ n ≤ 2) ∧ 0 ≤ most ∧ most ≤ 100 := by
  unfold carE at h
  split at h
  · rename_i h1
    split at h
    · rename_i h2
      split at h
      · omega
      · rename_i h3
        split at h
        · omega
        · refine ⟨h1, h2, fun n hn => ?_, by omega, by omega⟩
          have h3' : what.any ruleOut = false := by simpa using h3
          have := any_of_all h3' hn
          unfold ruleOut at this
          simp only [Bool.or_eq_false_iff, decide_eq_false_iff_not] at this
          omega
    · omega
  · rename_i h1
    exact absurd h h1
def newC (p : PD) : CD := ⟨newK p, p.code.map fun _ => 0⟩
/-- Is a room helped? -/
def caresB (what : List Int) (most : Int) (d : CD) (r : Nat) : Bool := (d.k.rooms.getD r stNew).f && (decide (0 < what.getD r 0) && decide (d.ts.getD r 0 < most))
/-- A room that is helped. -/
def helpS (p : PD) (what : List Int) (r : Nat) (s : St) : St := if what.getD r 0 = 1 then stNew else ⟨if s.p + 1 = ((p.code.getD r []).length : Int) then 0 else s.p + 1, s.c, false⟩
def helpC (p : PD) (what : List Int) (most : Int) (d : CD) : CD :=
  if 0 ≤ whoK p d.k ∧ caresB what most d (whoK p d.k).toNat = true then ⟨⟨d.k.rooms.set (whoK p d.k).toNat (helpS p what (whoK p d.k).toNat (d.k.rooms.getD (whoK p d.k).toNat stNew)), d.k.lines, d.k.time⟩, d.ts.set (whoK p d.k).toNat (d.ts.getD (whoK p d.k).toNat 0 + 1)⟩ else d
/-- A tick; what is told of it is the kernel's. -/
def tickC (p : PD) (what : List Int) (most : Int) (d : CD) : CD := ⟨(tickK p p.spans (helpC p what most d).k).1, (helpC p what most d).ts⟩
def evC (p : PD) (what : List Int) (most : Int) (d : CD) : Int × Int × Int × Int := (tickK p p.spans (helpC p what most d).k).2
structure COk (p : PD) (what : List Int) (most : Int) (d : CD) : Prop where
  k : KOk p d.k
  tl : d.ts.length = p.code.length
  ts : ∀ (i : Nat) t, d.ts[i]? = some t → 0 ≤ t ∧ t ≤ most ∧ (what.getD i 0 ≤ 0 → t = 0)
theorem help_time (p : PD) (what : List Int) (most : Int) (d : CD) : (helpC p what most d).k.time = d.k.time := by
  unfold helpC
  split <;> rfl
theorem help_lines (p : PD) (what : List Int) (most : Int) (d : CD) : (helpC p what most d).k.lines = d.k.lines := by
  unfold helpC
  split <;> rfl
theorem help_who (p : PD) (what : List Int) (most : Int) (d : CD) : whoK p (helpC p what most d).k = whoK p d.k := by
  unfold whoK
  rw [help_time]
theorem help_other (p : PD) (what : List Int) (most : Int) (d : CD) {r : Nat} (hr : (r : Int) ≠ whoK p d.k) : (helpC p what most d).k.rooms[r]? = d.k.rooms[r]? ∧ (helpC p what most d).ts[r]? = d.ts[r]? := by
  unfold helpC
  split
  · rename_i h
    exact ⟨List.getElem?_set_ne (by omega), List.getElem?_set_ne (by omega)⟩
  · exact ⟨rfl, rfl⟩
theorem help_no {p : PD} {what : List Int} {most : Int} {d : CD} (h : ¬ (0 ≤ whoK p d.k ∧ caresB what most d (whoK p d.k).toNat = true)) : helpC p what most d = d := by
  unfold helpC
  rw [if_neg h]
theorem help_yes {p : PD} {what : List Int} {most : Int} {d : CD} {rn : Nat} {s : St} {t : Int} (hr : whoK p d.k = rn) (hs : d.k.rooms[rn]? = some s) (ht : d.ts[rn]? = some t) (hc : caresB what most d rn = true) : helpC p what most d = ⟨⟨d.k.rooms.set rn (helpS p what rn s), d.k.lines, d.k.time⟩, d.ts.set rn (t + 1)⟩ := by
  unfold helpC
  rw [hr, Int.toNat_natCast, if_pos ⟨by omega, hc⟩]
  simp only [List.getD, hs, ht, Option.getD_some]
theorem newC_ok {p : PD} {what : List Int} {most : Int} (h : carE p what most = 0) : COk p what most (newC p) := by
  obtain ⟨h1, h2, h3, h4, h5⟩ := carE_zero h
  refine ⟨new_ok h1, by simp [newC], fun i t ht => ?_⟩
  unfold newC at ht
  simp only [List.getElem?_map] at ht
  obtain ⟨_, _, rfl⟩ := Option.map_eq_some_iff.1 ht
  exact ⟨Int.le_refl _, h4, fun _ => rfl⟩
theorem helpC_ok {p : PD} {what : List Int} {most : Int} {d : CD} (hp : plchk p = 0) (h : COk p what most d) : COk p what most (helpC p what most d) := by
  unfold helpC
  split
  · rename_i hc
    obtain ⟨hw, hc⟩ := hc
    unfold caresB at hc
    simp only [Bool.and_eq_true, decide_eq_true_eq] at hc
    obtain ⟨hf, hwt, hts⟩ := hc
    obtain ⟨rn, hrn⟩ : ∃ n : Nat, whoK p d.k = n := ⟨(whoK p d.k).toNat, by omega⟩
    rw [hrn, Int.toNat_natCast] at hf hwt hts ⊢
    have hlt : rn < p.code.length := by
      have := (who_room hp (d.k.time % p.ticks)).2
      unfold whoK at hrn
      rw [hrn] at this
      simpa using this (by omega)
    have hrl : rn < d.k.rooms.length := by rw [h.k.rl]; exact hlt
    have htl : rn < d.ts.length := by rw [h.tl]; exact hlt
    refine ⟨⟨by simp [h.k.rl], h.k.ll, fun i c s hi hs => ?_, h.k.lines, h.k.lost, h.k.time⟩, by simp [h.tl], fun i t ht => ?_⟩
    · by_cases hir : rn = i
      · subst hir
        simp only at hs
        rw [List.getElem?_set_self hrl] at hs
        obtain rfl := Option.some.inj hs
        have hs0 : d.k.rooms[rn]? = some (d.k.rooms.getD rn stNew) := by simp [List.getD, hrl]
        have hst := stOk_iff.1 (h.k.rooms rn c _ hi hs0)
        have hce : p.code.getD rn [] = c := by simp [List.getD, hi]
        unfold helpS
        rw [stOk_iff]
        split
        · refine ⟨Int.le_refl _, ?_, fun i _ => ⟨Int.le_refl _, by simp [stNew]⟩⟩
          show (0 : Int) < _
          omega
        · rw [hce]
          by_cases h1 : (d.k.rooms.getD rn stNew).p + 1 = (c.length : Int)
          · rw [if_pos h1]
            exact ⟨Int.le_refl _, by show (0 : Int) < _; omega, hst.2.2⟩
          · rw [if_neg h1]
            exact ⟨by show 0 ≤ (d.k.rooms.getD rn stNew).p + 1; omega, by show (d.k.rooms.getD rn stNew).p + 1 < _; omega, hst.2.2⟩
      · simp only at hs
        rw [List.getElem?_set_ne hir] at hs
        exact h.k.rooms i c s hi hs
    · by_cases hir : rn = i
      · subst hir
        simp only at ht
        rw [List.getElem?_set_self htl] at ht
        obtain rfl := Option.some.inj ht
        have h0 := h.ts rn d.ts[rn] (List.getElem?_eq_getElem htl)
        have he : d.ts.getD rn 0 = d.ts[rn] := by simp [List.getD, htl]
        rw [he] at hts ⊢
        exact ⟨by omega, by omega, fun hh => by omega⟩
      · simp only at ht
        rw [List.getElem?_set_ne hir] at ht
        exact h.ts i t ht
  · exact h
theorem tickC_ok {p : PD} {what : List Int} {most : Int} {d : CD} (hp : plchk p = 0) (h : COk p what most d) : COk p what most (tickC p what most d) := by
  have h' := helpC_ok hp h
  exact ⟨tick_ok hp h'.k, h'.tl, h'.ts⟩
/-- No room has failed. -/
def NoneF (k : KD) : Prop := ∀ (i : Nat) s, k.rooms[i]? = some s → s.f = false
theorem none_new (p : PD) : NoneF (newK p) := fun i s h => by
  unfold newK at h
  simp only [List.getElem?_map] at h
  obtain ⟨_, _, rfl⟩ := Option.map_eq_some_iff.1 h
  rfl
/-- Where none failed none is helped. -/
theorem none_help {p : PD} {what : List Int} {most : Int} {d : CD} (h : NoneF d.k) : helpC p what most d = d := by
  unfold helpC
  split
  · rename_i hc
    obtain ⟨_, hc⟩ := hc
    unfold caresB at hc
    simp only [Bool.and_eq_true] at hc
    obtain ⟨hf, _⟩ := hc
    generalize (whoK p d.k).toNat = r at hf
    cases hr : d.k.rooms[r]? with
    | none => rw [List.getD, hr] at hf; cases hf
    | some s =>
      rw [List.getD, hr] at hf
      have := h r s hr
      simp only [Option.getD_some] at hf
      rw [this] at hf
      cases hf
  · rfl
/-- Who fails at a tick is told. -/
theorem none_tick {p : PD} {k : KD} (hp : plchk p = 0) (hk : KOk p k) (h : NoneF k) (h4 : (tickK p p.spans k).2.2.2.2 ≠ 4) : NoneF (tickK p p.spans k).1 := by
  by_cases hneg : whoK p k < 0
  · have e1 : (tickK p p.spans k).1 = ⟨k.rooms, k.lines, k.time + 1⟩ := by
      unfold whoK at hneg
      unfold tickK
      simp only
      rw [if_pos hneg]
    rw [e1]
    exact h
  · obtain ⟨rn, hrn⟩ : ∃ n : Nat, whoK p k = n := ⟨(whoK p k).toNat, by omega⟩
    have hrl : rn < p.code.length := by
      have := (who_room hp (k.time % p.ticks)).2
      unfold whoK at hrn
      rw [hrn] at this
      simpa using this (by omega)
    have e1 : tickK p p.spans k = ((turnK p k rn).1, k.time, (rn : Int), (turnK p k rn).2.1, (turnK p k rn).2.2) := by
      unfold whoK at hrn
      unfold tickK
      simp only [hrn]
      rw [if_neg (by omega), Int.toNat_natCast]
    rw [e1] at h4 ⊢
    obtain ⟨c, s, o, tk⟩ := turn_of hp hk hrl
    obtain ⟨a1, a2, a3⟩ := tk.at
    have hf := h rn s tk.hs
    intro i s' hs'
    by_cases hir : rn = i
    · subst hir
      have hroom : (turnK p k rn).1.rooms = k.rooms.set rn (stepF o s c.length (gotK k o s).1 (gotK k o s).2) := by
        unfold turnK
        simp only [a1, a2, a3]
      simp only [hroom] at hs'
      rw [List.getElem?_set_self (List.getElem?_eq_some_iff.1 tk.hs).1] at hs'
      obtain rfl := Option.some.inj hs'
      unfold stepF
      rw [if_neg (by rw [hf]; decide)]
      show decide (o.1 = 11) = false
      apply decide_eq_false
      intro h11
      apply h4
      have := turn_else tk hf (by omega) (by omega)
      simp only [this, h11, if_true]
    · have := tick_room (p := p) (k := k) (r := i) (by rw [hrn]; omega)
      rw [e1] at this
      simp only at this hs'
      rw [this] at hs'
      exact h i s' hs'
/-- Two kernels with rules that are the same for some rooms, and the wires that lead to them. -/
structure SimC (ws : List W4) (R : Nat → Bool) (d e : CD) : Prop where
  k : Sim ws R d.k e.k
  ts : ∀ i, R i = true → d.ts[i]? = e.ts[i]?
theorem simC_new (p : PD) (R : Nat → Bool) : SimC p.wires R (newC p) (newC (purgeP p R)) := by
  refine ⟨sim_new p R, fun i _ => ?_⟩
  simp only [newC, purgeP, List.getElem?_map, purgeC_at]
  cases p.code[i]? <;> rfl
theorem simC_help {p : PD} {R : Nat → Bool} {what : List Int} {most : Int} {d e : CD} (hd : COk p what most d) (he : COk (purgeP p R) what most e) (hp : plchk p = 0) (h : SimC p.wires R d e) : SimC p.wires R (helpC p what most d) (helpC (purgeP p R) what most e) := by
  have ew : whoK (purgeP p R) e.k = whoK p d.k := by
    unfold whoK purgeP
    rw [h.k.time]
  refine ⟨⟨by rw [help_time, help_time, h.k.time], fun i hi => ?_, fun i x b hx hb hR => by rw [help_lines, help_lines]; exact h.k.lines i x b hx hb hR⟩, fun i hi => ?_⟩
  all_goals
    by_cases hiw : (i : Int) = whoK p d.k
    case neg =>
      obtain ⟨a1, a2⟩ := help_other p what most d hiw
      obtain ⟨b1, b2⟩ := help_other (purgeP p R) what most e (r := i) (by rw [ew]; exact hiw)
      first
        | (rw [a1, b1]; exact h.k.rooms i hi)
        | (rw [a2, b2]; exact h.ts i hi)
    have hw : whoK p d.k = (i : Int) := hiw.symm
    have hlt : i < p.code.length := by
      have := (who_room hp (d.k.time % p.ticks)).2
      unfold whoK at hw
      rw [hw] at this
      simpa using this (by omega)
    have hr := h.k.rooms i hi
    have ht := h.ts i hi
    have hrl : i < d.k.rooms.length := by rw [hd.k.rl]; exact hlt
    have hrl2 : i < e.k.rooms.length := by rw [he.k.rl]; show i < (purgeC R 0 p.code).length; rw [purgeC_len]; exact hlt
    have htl : i < d.ts.length := by rw [hd.tl]; exact hlt
    have htl2 : i < e.ts.length := by rw [he.tl]; show i < (purgeC R 0 p.code).length; rw [purgeC_len]; exact hlt
    have er : d.k.rooms.getD i stNew = e.k.rooms.getD i stNew := by rw [List.getD, List.getD, hr]
    have et : d.ts.getD i 0 = e.ts.getD i 0 := by rw [List.getD, List.getD, ht]
    have ec : (purgeP p R).code.getD i [] = p.code.getD i [] := by
      show (purgeC R 0 p.code).getD i [] = _
      rw [List.getD, List.getD, purgeC_at, Nat.zero_add]
      simp [hi]
    have eb : caresB what most e i = caresB what most d i := by
      unfold caresB
      rw [er, et]
    have eh : ∀ s, helpS (purgeP p R) what i s = helpS p what i s := fun s => by
      unfold helpS
      rw [ec]
    unfold helpC
    rw [ew, hw, Int.toNat_natCast, eb]
    by_cases hcb : (0 : Int) ≤ (i : Int) ∧ caresB what most d i = true
    · rw [if_pos hcb, if_pos hcb]
      simp only [eh, ← er, ← et]
      first
        | rw [List.getElem?_set_self hrl, List.getElem?_set_self hrl2]
        | rw [List.getElem?_set_self htl, List.getElem?_set_self htl2]
    · rw [if_neg hcb, if_neg hcb]
      first
        | exact hr
        | exact ht
/-- NO OTHER ROOM SEES IT: one tick. -/
theorem simC_tick {p : PD} {R : Nat → Bool} {what : List Int} {most : Int} {d e : CD} (hp : plchk p = 0) (hd : COk p what most d) (he : COk (purgeP p R) what most e) (hc : ClosedR p.wires R) (hw0 : ∀ x ∈ p.wires, 0 ≤ x.1) (h : SimC p.wires R d e) : SimC p.wires R (tickC p what most d) (tickC (purgeP p R) what most e) := by
  have hh := simC_help hd he hp h
  exact ⟨sim_tick hp (helpC_ok hp hd).k (helpC_ok (purge_right R hp) he).k hc hw0 hh.k, hh.ts⟩
end Go.Proofs.YteoemcekkcnplafGreatDoor
namespace Go.Proofs.YteoemcekkcnplafGreatDoor
open Go.RowKit

/-- How often a room was helped. -/
def timesC (d : CD) (r : Int) : Int := if noRoom d.k r = true then 0 else d.ts.getD r.toNat 0
/-- What package care does, in every world of a kind: K w0 w p what most d cb F: made in the world w0, of the plan p, a kernel with rules lies at block cb; it is d, and all that it has lies in the blocks F. -/
structure CarC (G : World → Prop) where
  K : World → World → PD → List Int → Int → CD → Nat → List Nat → Prop
  all : ∀ w w', G w → Below w.heap.size w w' → G w'
  since : ∀ {w0 w p what most d cb F}, K w0 w p what most d cb F → Below w0.heap.size w0 w
  ge : ∀ {w0 w p what most d cb F}, K w0 w p what most d cb F → ∀ g ∈ F, w0.heap.size ≤ g ∧ g < w.heap.size
  lower : ∀ {w1 w0 w p what most d cb F}, Below w1.heap.size w1 w0 → K w0 w p what most d cb F → K w1 w p what most d cb F
  frame : ∀ {w0 w w' p what most d cb F M}, K w0 w p what most d cb F → KTouch M w w' → (∀ m ∈ M, m ∉ F ∧ w0.heap.size ≤ m) → K w0 w' p what most d cb F
  new : ∀ (p : PD) (vc vs vw wv : Value) (what : List Int) (most : Int) (W : World), G W → Pln W vc vs vw p → Stp W wv what → carE p what most = 0 → Calls Tryz.prog 5 #[plV vc p.ticks vs vw, wv, .int .i64 most] W fun e w' => ∃ cb F, e = .returned (.tuple #[.pointer (some ⟨cb, 0, none⟩), .nilIface]) ∧ K W w' p what most (newC p) cb F
  no : ∀ (p : PD) (vc vs vw wv : Value) (what : List Int) (most : Int) (W : World), G W → Pln W vc vs vw p → Stp W wv what → carE p what most ≠ 0 → Calls Tryz.prog 5 #[plV vc p.ticks vs vw, wv, .int .i64 most] W fun e w' => ∃ x, e = .returned (.tuple #[.pointer x, wErr (carE p what most)]) ∧ Below W.heap.size W w'
  tick : ∀ {w0 W p what most d cb F}, G w0 → K w0 W p what most d cb F → carE p what most = 0 → COk p what most d → d.k.time < 1000000 → Calls Tryz.prog 10 #[.pointer (some ⟨cb, 0, none⟩)] W fun e w' => e = .returned (evA (evC p what most d)) ∧ ∃ F', K w0 w' p what most (tickC p what most d) cb F' ∧ KTouch F W w' ∧ ∀ g ∈ F', g ∈ F ∨ W.heap.size ≤ g
  state : ∀ {w0 W p what most d cb F} (r : Int), K w0 W p what most d cb F → COk p what most d → carE p what most = 0 → Calls Tryz.prog 12 #[.pointer (some ⟨cb, 0, none⟩), .int .i64 r] W fun e w' => e = .returned (.tuple #[stA (roomK d.k r), wErr (errB (noRoom d.k r))]) ∧ Below W.heap.size W w'
  times : ∀ {w0 W p what most d cb F} (r : Int), K w0 W p what most d cb F → COk p what most d → carE p what most = 0 → Calls Tryz.prog 13 #[.pointer (some ⟨cb, 0, none⟩), .int .i64 r] W fun e w' => e = .returned (.tuple #[.int .i64 (timesC d r), wErr (errB (noRoom d.k r))]) ∧ Below W.heap.size W w'
end Go.Proofs.YteoemcekkcnplafGreatDoor
