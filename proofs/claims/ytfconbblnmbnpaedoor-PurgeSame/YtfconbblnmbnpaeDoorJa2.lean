/-
  GClone, KSet, SgtMath, StRow, RLaid, StL, SgtCR, SgtRunG, FHold, Fits: joined into one text.
-/
import Derived.Test.YtfconbblnmbnpaeDoorJa1
import Derived.Deep.RegionLaw
import Derived.Deep.RegionWith
import Derived.Lib.SliceRun
import Derived.Deep.MidRow
import Derived.ProofKit
import Derived.LaidMore
import Derived.OpenShut
import Derived.Stop.Joined
import Derived.Stop.LaidErr
import Derived.Lib.LaidTab
import Derived.BigQuiet
import Derived.Deep.CutRange
namespace Go.Proofs.YtfconbblnmbnpaeDoor
open Go.RowKit

set_option maxRecDepth 100000 in
set_option maxHeartbeats 4000000 in
theorem clone_sp_nil (cap : Nat) (w : World) : Calls Tryd.prog 25 #[.slice none 0 cap] w fun e w' => e = .returned (.slice none 0 0) ∧ w' = w := by
  have q : ∀ (w : World) (a : Option Addr) (n c n' c' : Nat), (binOp .eql 23 (.slice a n c) (.slice none n' c')).run Tryd.prog w = .ok (.bool a.isNone) w := fun w a n c n' c' => Lib.run_eql_slice_nil w _ _ a n c n' c' Tryd.underlying23
  go_enter Tryd.func25, Tryd.ntmps25
  go_wp2
  go_ret
  exact ⟨rfl, rfl⟩
set_option maxRecDepth 100000 in
set_option maxHeartbeats 4000000 in
theorem clone_sp_some (ad : Addr) (cap : Nat) (l : List (Int × Int × Int)) (w : World) (hx : l.length ≤ 1000) (hc : ∀ j u, (spCells l)[j]? = some u → w.cell? (ad.add j) = some u) :
    Calls Tryd.prog 25 #[.slice (some ad) l.length cap] w fun e w' => ∃ v', e = .returned v' ∧ w'.ownsRow w.heap.size 41 3 v' l.length (spCells l) ∧ Below w.heap.size w w' := by
  obtain ⟨ii, hi, hz0, hz1, hz2⟩ := info_parts infoSp
  have q : ∀ (w : World) (a : Option Addr) (n c n' c' : Nat), (binOp .eql 23 (.slice a n c) (.slice none n' c')).run Tryd.prog w = .ok (.bool a.isNone) w := fun w a n c n' c' => Lib.run_eql_slice_nil w _ _ a n c n' c' Tryd.underlying23
  have HC : Hid (∀ j u, (spCells l)[j]? = some u → w.cell? (ad.add j) = some u) := hc
  clear hc
  go_enter Tryd.func25, Tryd.ntmps25
  go_wp2_with (at_builtin; refine wpList_append_at _ rfl _ _ 23 rfl w.heap.size 41 ii _ 3 24 Tryd.underlying23 hi hz0 hz1 hz2 rfl (by decide) _ _ _ rfl (World.ownsRow_made w #[] 0 (Nat.le_refl _) (Nat.zero_le _) rfl) ad l.length cap (spCells l) rfl ?c0A ?c1A ?c2A ?c3A ?c4A ?c5A ?_)
  case c0A => exact spCells_len l
  case c1A =>
    intro j u hj
    have h := HC.out j u hj
    exact (((Below.refl _ w).alloc (Nat.le_refl _) _).cell (p := ad.add j) (World.block_lt_of_cell? w _ h)).trans h
  case c2A => exact spCells_one l
  case c3A => unfold maxLen; omega
  case c4A => omega
  case c5A => simp
  intro v1 w2 own1 hg1 hat1
  clear q
  go_wp2
  go_ret
  refine ⟨v1, rfl, by simpa using own1, ((Below.refl _ w).alloc (Nat.le_refl _) _).grown hg1 (by simp) (by intro k hk; simp [Value.ownBlock] at hk; omega)⟩
theorem clone_sps (l : List S3) (v : Value) (w : World) (h : Sps w v l) (hx : l.length ≤ 1000) :
    Calls Tryd.prog 25 #[v] w fun e w' => ∃ v', e = .returned v' ∧ w'.ownsRow w.heap.size 41 3 v' l.length (spCells l) ∧ Below w.heap.size w w' := by
  rcases h with ⟨rfl, ao, cap, rfl⟩ | ⟨b, off, cap, rfl, hcap, hlt, hc⟩
  · cases ao with
    | none =>
      refine (clone_sp_nil cap w).mono ?_
      rintro e w' ⟨rfl, rfl⟩
      exact ⟨_, rfl, World.ownsRow_nil _ _ _ _, Below.refl _ _⟩
    | some ad => exact clone_sp_some ad cap [] w (Nat.zero_le _) (fun j u hj => by simp [spCells] at hj)
  · exact clone_sp_some ⟨b, off, none⟩ cap l w hx (trio_at l off hc)
end Go.Proofs.YtfconbblnmbnpaeDoor
namespace Go.Proofs.YtfconbblnmbnpaeDoor
open Go.RowKit

/-- A state's eight cells, written. -/
def setSt (w : World) (b o : Nat) (s : St) : World := (((((((w.setCell ⟨b, o, none⟩ (.int .i64 s.p)).setCell ⟨b, o + 1, none⟩ (.int .i64 (s.c 0))).setCell ⟨b, o + 2, none⟩ (.int .i64 (s.c 1))).setCell ⟨b, o + 3, none⟩ (.int .i64 (s.c 2))).setCell ⟨b, o + 4, none⟩ (.int .i64 (s.c 3))).setCell ⟨b, o + 5, none⟩ (.int .i64 (s.c 4))).setCell ⟨b, o + 6, none⟩ (.int .i64 (s.c 5))).setCell ⟨b, o + 7, none⟩ (.bool s.f)
theorem setSt_touch {M : List Nat} (w : World) {b : Nat} (hb : b ∈ M) (o : Nat) (s : St) : KTouch M w (setSt w b o s) :=
  (((((((KTouch.set w hb _ _).trans (KTouch.set _ hb _ _)).trans (KTouch.set _ hb _ _)).trans (KTouch.set _ hb _ _)).trans (KTouch.set _ hb _ _)).trans (KTouch.set _ hb _ _)).trans (KTouch.set _ hb _ _)).trans (KTouch.set _ hb _ _)
theorem setSt_frozen (w : World) (b o : Nat) (s : St) (a : Addr) : (setSt w b o s).frozen? a = w.frozen? a := by
  unfold setSt
  simp only [World.frozen?_setCell]
theorem setCell_far {w : World} {b i j : Nat} {v : Value} (h : i ≠ j) : (w.setCell ⟨b, j, none⟩ v).cell? ⟨b, i, none⟩ = w.cell? ⟨b, i, none⟩ :=
  World.cell?_setCell_other _ _ _ _ (fun e => by injection e with e1 e2; exact h e2.symm)
theorem setSt_off {w : World} {b o : Nat} {s : St} {i : Nat} (h : i < o ∨ o + 8 ≤ i) : (setSt w b o s).cell? ⟨b, i, none⟩ = w.cell? ⟨b, i, none⟩ := by
  unfold setSt
  rw [setCell_far (by omega), setCell_far (by omega), setCell_far (by omega), setCell_far (by omega), setCell_far (by omega), setCell_far (by omega), setCell_far (by omega), setCell_far (by omega)]
theorem setSt_at {w : World} {b o : Nat} {s s' : St} (h : StC w b o s) : StC (setSt w b o s') b o s' := by
  obtain ⟨h0, h1, h2, h3, h4, h5, h6, h7⟩ := h
  unfold setSt
  refine ⟨?_, ?_, ?_, ?_, ?_, ?_, ?_, ?_⟩ <;> simp [go_sem, h0, h1, h2, h3, h4, h5, h6, h7]
theorem StC.off {w w' : World} {b o : Nat} {s : St} (h : StC w b o s) (hc : ∀ i, o ≤ i → i < o + 8 → w'.cell? ⟨b, i, none⟩ = w.cell? ⟨b, i, none⟩) : StC w' b o s :=
  ⟨(hc _ (by omega) (by omega)).trans h.p, (hc _ (by omega) (by omega)).trans h.c0, (hc _ (by omega) (by omega)).trans h.c1, (hc _ (by omega) (by omega)).trans h.c2, (hc _ (by omega) (by omega)).trans h.c3, (hc _ (by omega) (by omega)).trans h.c4, (hc _ (by omega) (by omega)).trans h.c5, (hc _ (by omega) (by omega)).trans h.f⟩
theorem StC.poke {w : World} {b o : Nat} {s : St} (h : StC w b o s) {c : Nat} (hc : c ≤ 5) (n : Int) : StC (w.setCell ⟨b, o + 1 + c, none⟩ (.int .i64 n)) b o (pokeS s c n) := by
  obtain ⟨h0, h1, h2, h3, h4, h5, h6, h7⟩ := h
  match c, hc with
  | 0, _ => refine ⟨?_, ?_, ?_, ?_, ?_, ?_, ?_, ?_⟩ <;> simp [go_sem, pokeS, h0, h1, h2, h3, h4, h5, h6, h7]
  | 1, _ => refine ⟨?_, ?_, ?_, ?_, ?_, ?_, ?_, ?_⟩ <;> simp [go_sem, pokeS, h0, h1, h2, h3, h4, h5, h6, h7]
  | 2, _ => refine ⟨?_, ?_, ?_, ?_, ?_, ?_, ?_, ?_⟩ <;> simp [go_sem, pokeS, h0, h1, h2, h3, h4, h5, h6, h7]
  | 3, _ => refine ⟨?_, ?_, ?_, ?_, ?_, ?_, ?_, ?_⟩ <;> simp [go_sem, pokeS, h0, h1, h2, h3, h4, h5, h6, h7]
  | 4, _ => refine ⟨?_, ?_, ?_, ?_, ?_, ?_, ?_, ?_⟩ <;> simp [go_sem, pokeS, h0, h1, h2, h3, h4, h5, h6, h7]
  | 5, _ => refine ⟨?_, ?_, ?_, ?_, ?_, ?_, ?_, ?_⟩ <;> simp [go_sem, pokeS, h0, h1, h2, h3, h4, h5, h6, h7]
/-- An event in its box. -/
def EvB (W : World) (b : Nat) (t r a q : Int) : Prop := W.heap[b]? = some (.cells #[.int .i64 t, .int .i64 r, .int .i64 a, .int .i64 q] 60 (0, 0))
theorem EvB.lt {W : World} {b : Nat} {t r a q : Int} (h : EvB W b t r a q) : b < W.heap.size := (Array.getElem?_eq_some_iff.1 h).1
theorem EvB.cs {W : World} {b : Nat} {t r a q : Int} (h : EvB W b t r a q) : W.cell? ⟨b, 0, none⟩ = some (.int .i64 t) ∧ W.cell? ⟨b, 1, none⟩ = some (.int .i64 r) ∧ W.cell? ⟨b, 2, none⟩ = some (.int .i64 a) ∧ W.cell? ⟨b, 3, none⟩ = some (.int .i64 q) := by
  have e : W.heap[b]? = _ := h
  simp [World.cell?, e]
theorem EvB.fs {W : World} {b : Nat} {t r a q : Int} (h : EvB W b t r a q) : W.frozen? ⟨b, 0, none⟩ = false ∧ W.frozen? ⟨b, 1, none⟩ = false ∧ W.frozen? ⟨b, 2, none⟩ = false ∧ W.frozen? ⟨b, 3, none⟩ = false := by
  have e : W.heap[b]? = _ := h
  simp [World.frozen?, e]
theorem EvB.set {W : World} {b : Nat} {t r a q : Int} (h : EvB W b t r a q) (t' r' a' q' : Int) : EvB ((((W.setCell ⟨b, 0, none⟩ (.int .i64 t')).setCell ⟨b, 1, none⟩ (.int .i64 r')).setCell ⟨b, 2, none⟩ (.int .i64 a')).setCell ⟨b, 3, none⟩ (.int .i64 q')) b t' r' a' q' := by
  have e : W.heap[b]? = _ := h
  unfold EvB
  simp [World.setCell, Array.getElem?_modify, e]
theorem EvB.at {W : World} {b : Nat} {t r a q : Int} (h : EvB W b t r a q) (a' : Int) : EvB (W.setCell ⟨b, 2, none⟩ (.int .i64 a')) b t r a' q := by
  have e : W.heap[b]? = _ := h
  unfold EvB
  simp [World.setCell, Array.getElem?_modify, e]
theorem EvB.what {W : World} {b : Nat} {t r a q : Int} (h : EvB W b t r a q) (q' : Int) : EvB (W.setCell ⟨b, 3, none⟩ (.int .i64 q')) b t r a q' := by
  have e : W.heap[b]? = _ := h
  unfold EvB
  simp [World.setCell, Array.getElem?_modify, e]
/-- A state in its box. -/
def StB (W : World) (b : Nat) (s : St) : Prop := W.heap[b]? = some (.cells #[.int .i64 s.p, .int .i64 (s.c 0), .int .i64 (s.c 1), .int .i64 (s.c 2), .int .i64 (s.c 3), .int .i64 (s.c 4), .int .i64 (s.c 5), .bool s.f] 35 (0, 0))
theorem StB.cs {W : World} {b : Nat} {s : St} (h : StB W b s) : StC W b 0 s := by
  have e : W.heap[b]? = _ := h
  refine ⟨?_, ?_, ?_, ?_, ?_, ?_, ?_, ?_⟩ <;> simp [World.cell?, e]
/-- Both boxes of a tick, the result's and its own. -/
structure Ev (w W : World) (e2 : Nat) (t r a q : Int) : Prop where
  res : EvB W w.heap.size 0 0 0 0
  own : EvB W e2 t r a q
  ne : e2 ≠ w.heap.size
  ge : w.heap.size ≤ e2
/-- The box laid ahead of the call. -/
theorem ev_box {w w1 : World} (b1 : Below (((w.alloc (.cells #[.int .i64 0, .int .i64 0, .int .i64 0, .int .i64 0] 60)).alloc (.cells #[.int .i64 0, .int .i64 0, .int .i64 0, .int .i64 0] 60)).drew).heap.size (((w.alloc (.cells #[.int .i64 0, .int .i64 0, .int .i64 0, .int .i64 0] 60)).alloc (.cells #[.int .i64 0, .int .i64 0, .int .i64 0, .int .i64 0] 60)).drew) w1) :
    (w1.cell? ⟨w.heap.size + 1, 0, none⟩ = some (.int .i64 0) ∧ w1.cell? ⟨w.heap.size + 1, 1, none⟩ = some (.int .i64 0) ∧ w1.cell? ⟨w.heap.size + 1, 2, none⟩ = some (.int .i64 0) ∧ w1.cell? ⟨w.heap.size + 1, 3, none⟩ = some (.int .i64 0)) ∧ w1.frozen? ⟨w.heap.size + 1, 0, none⟩ = false ∧ w1.frozen? ⟨w.heap.size + 1, 1, none⟩ = false ∧ w1.frozen? ⟨w.heap.size + 1, 2, none⟩ = false ∧ w1.frozen? ⟨w.heap.size + 1, 3, none⟩ = false := by
  have hc := fun o => b1.cell (p := ⟨w.heap.size + 1, o, none⟩) (by simp)
  have hf := fun o => b1.frozen (p := ⟨w.heap.size + 1, o, none⟩) (by simp)
  exact ⟨⟨(hc 0).trans (by simp), (hc 1).trans (by simp), (hc 2).trans (by simp), (hc 3).trans (by simp)⟩, (hf 0).trans (by simp), (hf 1).trans (by simp), (hf 2).trans (by simp), (hf 3).trans (by simp)⟩
/-- The cells of a state are there, and may be written. -/
theorem there_st {W : World} {b o : Nat} {s : St} (h : StC W b o s) (hf : ∀ i, W.frozen? ⟨b, i, none⟩ = false) (nq : Nat) : (W.drewN nq).there b o 8 := by
  obtain ⟨s0, s1, s2, s3, s4, s5, s6, s7⟩ := h
  intro j hj
  have hb : Below W.heap.size W (W.drewN nq) := below_dN (Below.refl _ _) nq
  have hlt : b < W.heap.size := World.block_lt_of_cell? W _ s0
  rw [hb.cell (p := ⟨b, o + j, none⟩) hlt, hb.frozen (p := ⟨b, o + j, none⟩) hlt]
  refine ⟨?_, hf _⟩
  match j, hj with
  | 0, _ => rw [Nat.add_zero, s0]; rfl
  | 1, _ => rw [s1]; rfl
  | 2, _ => rw [s2]; rfl
  | 3, _ => rw [s3]; rfl
  | 4, _ => rw [s4]; rfl
  | 5, _ => rw [s5]; rfl
  | 6, _ => rw [s6]; rfl
  | 7, _ => rw [s7]; rfl
end Go.Proofs.YtfconbblnmbnpaeDoor
namespace Go.Proofs.YtfconbblnmbnpaeDoor

/-- A wire that leads to a room, or comes from it. -/
def atR (r : Int) (l : LnD) : Bool := decide (l.w.1 = r) || decide (l.w.2.1 = r)
/-- What a room sees of a kernel's lines. -/
def seesK (k : KD) (r : Int) : List (List Int × Int) := (k.lines.filter (atR r)).map fun l => (l.xs, l.ls)
/-- A room's states ahead of each of n ticks, and behind the last one. -/
def statesK (p : PD) (n r : Nat) : List St := (List.range (n + 1)).map fun t => (kT p t).rooms.getD r stNew
theorem statesK_len (p : PD) (n r : Nat) : (statesK p n r).length = n + 1 := by simp [statesK]
theorem statesK_zero (p : PD) (r : Nat) : statesK p 0 r = [(newK p).rooms.getD r stNew] := by simp [statesK, kT]
theorem statesK_succ (p : PD) (n r : Nat) : statesK p (n + 1) r = statesK p n r ++ [(kT p (n + 1)).rooms.getD r stNew] := by
  unfold statesK
  rw [List.range_succ, List.map_append]
  rfl
theorem statesK_first (p : PD) (n r : Nat) : (statesK p n r)[0]? = some stNew := by
  have h : (newK p).rooms.getD r stNew = stNew := by
    unfold newK
    simp only [List.getD, List.getElem?_map]
    cases p.code[r]? <;> rfl
  rw [← h]
  simp [statesK, kT]
/-- What is wrong with a run. -/
def runE (p : PD) (n r : Int) : Int := if plchk p = 0 then (if r < 0 ∨ (p.code.length : Int) ≤ r ∨ n < 0 ∨ 2000 < n then 1 else 0) else plchk p
/-- Two states that look the same. -/
structure StSame (s t : St) : Prop where
  p : s.p = t.p
  c : ∀ i, i < 6 → s.c i = t.c i
  f : s.f = t.f
theorem StSame.refl (s : St) : StSame s s := ⟨rfl, fun _ _ => rfl, rfl⟩
theorem cells_same {o : O3} {c d : Nat → Int} {g : Int} {b : Bool} (h : ∀ i, i < 6 → c i = d i) (hA : o.2.1.toNat < 6) (hB : o.1 = 2 ∨ o.1 = 3 ∨ o.1 = 4 ∨ o.1 = 5 → o.2.2.toNat < 6) : ∀ i, i < 6 → cellsF o c g b i = cellsF o d g b i := fun i hi => by
  have hu : ∀ v, upd c o.2.1.toNat v i = upd d o.2.1.toNat v i := fun v => by
    unfold upd
    split
    · rfl
    · exact h i hi
  unfold cellsF
  split
  · exact hu _
  split
  · rename_i h2; rw [h _ (hB (by omega))]; exact hu _
  split
  · rename_i h3; rw [h _ hA, h _ (hB (by omega))]; exact hu _
  split
  · rename_i h4; rw [h _ hA, h _ (hB (by omega))]; exact hu _
  split
  · rename_i h5; rw [h _ hA, h _ (hB (by omega))]; exact hu _
  split
  · split
    · exact hu _
    · exact h i hi
  · exact h i hi
theorem step_same {o : O3} {s t : St} {n : Nat} {g : Int} {b : Bool} (h : StSame s t) (hA : o.2.1.toNat < 6) (hB : o.1 = 2 ∨ o.1 = 3 ∨ o.1 = 4 ∨ o.1 = 5 → o.2.2.toNat < 6) : StSame (stepF o s n g b) (stepF o t n g b) := by
  unfold stepF
  rw [← h.f]
  split
  · exact h
  · refine ⟨?_, cells_same h.c hA hB, rfl⟩
    show nextF o s n b = nextF o t n b
    unfold nextF
    rw [h.p, h.c _ hA]
theorem small_args {p : PD} {k : KD} {r : Nat} {c : List O3} {s : St} {o : O3} (h : Turn p k r c s o) : o.2.1.toNat < 6 ∧ (o.1 = 2 ∨ o.1 = 3 ∨ o.1 = 4 ∨ o.1 = 5 → o.2.2.toNat < 6) := by
  have hr := ok3_range h.ok
  have hb := (bA_le o.1).2
  refine ⟨by omega, fun hh => ?_⟩
  rcases hh with e | e | e | e <;> simp [e, bB] at hr <;> omega
/-- One turn of a room that sees the same. -/
theorem turn_same {p : PD} {k m : KD} {r : Nat} {c : List O3} {s t : St} {o : O3} (hk : Turn p k r c s o) (hm : Turn p m r c t o) (hs : StSame s t) (hl : o.1 = 8 ∨ o.1 = 9 → ∃ l, k.lines[o.2.2.toNat]? = some l ∧ m.lines[o.2.2.toNat]? = some l) (hrk : r < k.rooms.length) (hrm : r < m.rooms.length) :
    (turnK p k r).2 = (turnK p m r).2 ∧ ∃ s' t', (turnK p k r).1.rooms[r]? = some s' ∧ (turnK p m r).1.rooms[r]? = some t' ∧ StSame s' t' := by
  obtain ⟨hA, hB⟩ := small_args hk
  have hst : ∀ g b, StSame (stepF o s c.length g b) (stepF o t c.length g b) := fun g b => step_same hs hA hB
  cases hf : s.f with
  | true =>
    have hf' : t.f = true := by rw [← hs.f]; exact hf
    rw [turn_failed hk hf, turn_failed hm hf']
    exact ⟨by rw [hs.p], s, t, hk.hs, hm.hs, hs⟩
  | false =>
    have hf' : t.f = false := by rw [← hs.f]; exact hf
    by_cases h9 : o.1 = 9
    · obtain ⟨l, h1, h2⟩ := hl (Or.inr h9)
      cases hh : (headL l).2 with
      | true =>
        rw [turn_takes hk hf h9 h1 hh, turn_takes hm hf' h9 h2 hh]
        exact ⟨by rw [hs.p], _, _, List.getElem?_set_self hrk, List.getElem?_set_self hrm, hst _ _⟩
      | false =>
        rw [turn_waits hk hf h9 h1 hh, turn_waits hm hf' h9 h2 hh]
        exact ⟨by rw [hs.p], _, _, List.getElem?_set_self hrk, List.getElem?_set_self hrm, hst _ _⟩
    · by_cases h8 : o.1 = 8
      · obtain ⟨l, h1, h2⟩ := hl (Or.inl h8)
        rw [turn_sends hk hf h8 h1, turn_sends hm hf' h8 h2]
        exact ⟨by rw [hs.p], _, _, List.getElem?_set_self hrk, List.getElem?_set_self hrm, hst _ _⟩
      · rw [turn_else hk hf h8 h9, turn_else hm hf' h8 h9]
        exact ⟨by rw [hs.p], _, _, List.getElem?_set_self hrk, List.getElem?_set_self hrm, hst _ _⟩
/-- What is seen the same is the same line. -/
theorem sees_line : ∀ {ls ms : List LnD} {ws : List W4} {r : Int}, ls.length = ws.length → ms.length = ws.length → (∀ (i : Nat) l x, ls[i]? = some l → ws[i]? = some x → l.w = x) → (∀ (i : Nat) l x, ms[i]? = some l → ws[i]? = some x → l.w = x) →
    ((ls.filter (atR r)).map fun l => (l.xs, l.ls)) = ((ms.filter (atR r)).map fun l => (l.xs, l.ls)) → ∀ (i : Nat) x, ws[i]? = some x → x.1 = r ∨ x.2.1 = r → ls[i]? = ms[i]?
  | [], [], _, _, _, _, _, _, _, i, x, _, _ => by simp
  | [], _ :: _, ws, _, h1, h2, _, _, _, _, _, _, _ => by simp at h1 h2; omega
  | _ :: _, [], ws, _, h1, h2, _, _, _, _, _, _, _ => by simp at h1 h2; omega
  | l :: ls, m :: ms, [], _, h1, _, _, _, _, _, _, _, _ => by simp at h1
  | l :: ls, m :: ms, y :: ws, r, h1, h2, h3, h4, h5, i, x, hx, hr => by
    have e1 : l.w = y := h3 0 l y rfl rfl
    have e2 : m.w = y := h4 0 m y rfl rfl
    have ea : atR r m = atR r l := by unfold atR; rw [e1, e2]
    have rest : ((ls.filter (atR r)).map fun l => (l.xs, l.ls)) = ((ms.filter (atR r)).map fun l => (l.xs, l.ls)) ∧ (atR r l = true → l = m) := by
      cases hb : atR r l with
      | true =>
        rw [List.filter_cons_of_pos (by exact hb), List.filter_cons_of_pos (by rw [ea]; exact hb)] at h5
        simp only [List.map_cons, List.cons.injEq, Prod.mk.injEq] at h5
        refine ⟨h5.2, fun _ => ?_⟩
        obtain ⟨lw, lx, ll⟩ := l
        obtain ⟨mw, mx, ml⟩ := m
        simp only at e1 e2 h5
        rw [e1, e2, h5.1.1, h5.1.2]
      | false =>
        rw [List.filter_cons_of_neg (by rw [hb]; decide), List.filter_cons_of_neg (by rw [ea, hb]; decide)] at h5
        exact ⟨h5, fun h => by cases h⟩
    cases i with
    | zero =>
      simp only [List.getElem?_cons_zero, Option.some.injEq] at hx ⊢
      subst hx
      refine rest.2 ?_
      unfold atR
      rw [e1]
      rcases hr with hr | hr <;> simp [hr]
    | succ i =>
      simp only [List.getElem?_cons_succ] at hx ⊢
      exact sees_line (by simpa using h1) (by simpa using h2) (fun j l' x' hl hx => h3 (j + 1) l' x' (by simpa using hl) (by simpa using hx)) (fun j l' x' hl hx => h4 (j + 1) l' x' (by simpa using hl) (by simpa using hx)) rest.1 i x hx hr
/-- WHO SEES THE SAME DOES THE SAME: one tick. -/
theorem tick_same {p : PD} {k m : KD} (hp : plchk p = 0) (hk : KOk p k) (hm : KOk p m) (ht : k.time = m.time) {r : Nat} (hr : r < p.code.length) {s t : St} (hs : k.rooms[r]? = some s) (htt : m.rooms[r]? = some t) (hst : StSame s t) (hsee : seesK k r = seesK m r) :
    (tickK p p.spans k).2.2.1 = (tickK p p.spans m).2.2.1 ∧ ((tickK p p.spans k).2.2.1 = (r : Int) → (tickK p p.spans k).2 = (tickK p p.spans m).2 ∧ ∃ s' t', (tickK p p.spans k).1.rooms[r]? = some s' ∧ (tickK p p.spans m).1.rooms[r]? = some t' ∧ StSame s' t') := by
  have ew : whoK p k = whoK p m := by unfold whoK; rw [ht]
  refine ⟨by rw [(tick_told p k).2, (tick_told p m).2, ew], fun hw => ?_⟩
  rw [(tick_told p k).2] at hw
  have hwm : whoK p m = r := by rw [← ew]; exact hw
  have e1 : tickK p p.spans k = ((turnK p k r).1, k.time, (r : Int), (turnK p k r).2.1, (turnK p k r).2.2) := by
    unfold whoK at hw
    unfold tickK
    simp only [hw]
    rw [if_neg (by omega), Int.toNat_natCast]
  have e2 : tickK p p.spans m = ((turnK p m r).1, m.time, (r : Int), (turnK p m r).2.1, (turnK p m r).2.2) := by
    unfold whoK at hwm
    unfold tickK
    simp only [hwm]
    rw [if_neg (by omega), Int.toNat_natCast]
  obtain ⟨c, s0, o, tk⟩ := turn_of hp hk hr
  obtain rfl : s = s0 := Option.some.inj (hs.symm.trans tk.hs)
  have tm : Turn p m r c t o := ⟨tk.hc, htt, by rw [← hst.p]; exact tk.ho, tk.ck, hm.rooms r c t tk.hc htt, tk.ok⟩
  have hl : o.1 = 8 ∨ o.1 = 9 → ∃ l, k.lines[o.2.2.toNat]? = some l ∧ m.lines[o.2.2.toNat]? = some l := fun ho => by
    have hx : ∃ x, p.wires[o.2.2.toNat]? = some x ∧ (x.1 = (r : Int) ∨ x.2.1 = (r : Int)) := by
      have := op_wire hp tk.hc (List.mem_of_getElem? tk.ho)
      rcases ho with h8 | h9
      · obtain ⟨x, h1, h2⟩ := this.1 h8
        exact ⟨x, h1, Or.inl h2⟩
      · obtain ⟨x, h1, h2⟩ := this.2 h9
        exact ⟨x, h1, Or.inr h2⟩
    obtain ⟨x, hx1, hx2⟩ := hx
    have hlt : o.2.2.toNat < k.lines.length := by rw [hk.ll]; exact (List.getElem?_eq_some_iff.1 hx1).1
    have hl1 : k.lines[o.2.2.toNat]? = some k.lines[o.2.2.toNat] := List.getElem?_eq_getElem hlt
    have := sees_line hk.ll hm.ll (fun i l x h1 h2 => (hk.lines i l x h1 h2).w) (fun i l x h1 h2 => (hm.lines i l x h1 h2).w) hsee _ x hx1 hx2
    exact ⟨_, hl1, by rw [← this]; exact hl1⟩
  have hrl : r < k.rooms.length := by rw [hk.rl]; exact hr
  have hrm : r < m.rooms.length := by rw [hm.rl]; exact hr
  obtain ⟨q1, q2⟩ := turn_same tk tm hst hl hrl hrm
  rw [e1, e2]
  refine ⟨?_, q2⟩
  rw [ht, q1]
end Go.Proofs.YtfconbblnmbnpaeDoor
namespace Go.Proofs.YtfconbblnmbnpaeDoor
open Go.RowKit

/-- States as cells. -/
def stCells (l : List St) : List Value := l.flatMap fun s => [.int .i64 s.p, .int .i64 (s.c 0), .int .i64 (s.c 1), .int .i64 (s.c 2), .int .i64 (s.c 3), .int .i64 (s.c 4), .int .i64 (s.c 5), .bool s.f]
theorem stCells_snoc (l : List St) (s : St) : stCells (l ++ [s]) = stCells l ++ [.int .i64 s.p, .int .i64 (s.c 0), .int .i64 (s.c 1), .int .i64 (s.c 2), .int .i64 (s.c 3), .int .i64 (s.c 4), .int .i64 (s.c 5), .bool s.f] := by simp [stCells]
theorem stCells_at : ∀ (l : List St) (i : Nat) (s : St), l[i]? = some s → (stCells l)[i * 8]? = some (.int .i64 s.p) ∧ (stCells l)[i * 8 + 1]? = some (.int .i64 (s.c 0)) ∧ (stCells l)[i * 8 + 2]? = some (.int .i64 (s.c 1)) ∧ (stCells l)[i * 8 + 3]? = some (.int .i64 (s.c 2)) ∧ (stCells l)[i * 8 + 4]? = some (.int .i64 (s.c 3)) ∧ (stCells l)[i * 8 + 5]? = some (.int .i64 (s.c 4)) ∧ (stCells l)[i * 8 + 6]? = some (.int .i64 (s.c 5)) ∧ (stCells l)[i * 8 + 7]? = some (.bool s.f)
  | [], i, s, h => by simp at h
  | x :: l, 0, s, h => by simp at h; subst h; simp [stCells]
  | x :: l, i + 1, s, h => by
    have h1 := stCells_at l i s (by simpa using h)
    have e : ∀ j, (stCells (x :: l))[(i + 1) * 8 + j]? = (stCells l)[i * 8 + j]? := fun j => by
      show ([.int .i64 x.p, .int .i64 (x.c 0), .int .i64 (x.c 1), .int .i64 (x.c 2), .int .i64 (x.c 3), .int .i64 (x.c 4), .int .i64 (x.c 5), .bool x.f] ++ stCells l)[(i + 1) * 8 + j]? = _
      rw [List.getElem?_append_right (by simp; omega)]
      congr 1
      simp
      omega
    exact ⟨(e 0).trans h1.1, (e 1).trans h1.2.1, (e 2).trans h1.2.2.1, (e 3).trans h1.2.2.2.1, (e 4).trans h1.2.2.2.2.1, (e 5).trans h1.2.2.2.2.2.1, (e 6).trans h1.2.2.2.2.2.2.1, (e 7).trans h1.2.2.2.2.2.2.2⟩
theorem st_one (s : St) : ∀ u ∈ [Value.int .i64 s.p, .int .i64 (s.c 0), .int .i64 (s.c 1), .int .i64 (s.c 2), .int .i64 (s.c 3), .int .i64 (s.c 4), .int .i64 (s.c 5), .bool s.f], u.oneCell' = true := by
  intro u hu
  simp only [List.mem_cons, List.not_mem_nil, or_false] at hu
  rcases hu with rfl | rfl | rfl | rfl | rfl | rfl | rfl | rfl <;> rfl
theorem st_new {w : World} {k : Nat} (hk : k = w.heap.size) (s : St) (t : TypeId) : ∀ j u, [Value.int .i64 s.p, .int .i64 (s.c 0), .int .i64 (s.c 1), .int .i64 (s.c 2), .int .i64 (s.c 3), .int .i64 (s.c 4), .int .i64 (s.c 5), .bool s.f][j]? = some u → (w.alloc (.cells #[.int .i64 s.p, .int .i64 (s.c 0), .int .i64 (s.c 1), .int .i64 (s.c 2), .int .i64 (s.c 3), .int .i64 (s.c 4), .int .i64 (s.c 5), .bool s.f] t)).cell? ((⟨k, 0, none⟩ : Addr).add j) = some u := by
  intro j u hj
  subst hk
  rw [Addr.add_lit, Nat.zero_add]
  match j, hj with
  | 0, hj => simp at hj; subst hj; simp
  | 1, hj => simp at hj; subst hj; simp
  | 2, hj => simp at hj; subst hj; simp
  | 3, hj => simp at hj; subst hj; simp
  | 4, hj => simp at hj; subst hj; simp
  | 5, hj => simp at hj; subst hj; simp
  | 6, hj => simp at hj; subst hj; simp
  | 7, hj => simp at hj; subst hj; simp
  | j + 8, hj => simp at hj
theorem infoSt : (Tryd.prog.info? 35).map (fun i => (i.zero, i.size, i.bytes)) = some (some (.agg #[.int .i64 0, .int .i64 0, .int .i64 0, .int .i64 0, .int .i64 0, .int .i64 0, .int .i64 0, .bool false]), 8, 64) := by kernel_rfl
end Go.Proofs.YtfconbblnmbnpaeDoor
namespace Go.Proofs.YtfconbblnmbnpaeDoor
open Go.ChangeShapes Go.WideShapes Go.ChangeAt Go.WideElems Go.RowKit

theorem gForms : Tryd.prog.globalNamed "framekeep/code.forms" = some 1 := by kernel_rfl
theorem tForms : (Tryd.prog.globals[1]?).map (·.type) = some 151 := by kernel_rfl
theorem cStr : Tryd.prog.cellsOf 9 = 1 := by kernel_rfl
theorem cInt : Tryd.prog.cellsOf 3 = 1 := by kernel_rfl
theorem cTwo : Tryd.prog.cellsOf 148 = 2 := by kernel_rfl
theorem cForm : Tryd.prog.cellsOf 150 = 3 := by kernel_rfl

theorem len2 {α : Type} {l : List α} (h : l.length = 2) : ∃ a b, l = [a, b] := by
  match l, h with
  | [a, b], _ => exact ⟨a, b, rfl⟩
theorem len3 {α : Type} {l : List α} (h : l.length = 3) : ∃ a b c, l = [a, b, c] := by
  match l, h with
  | [a, b, c], _ => exact ⟨a, b, c, rfl⟩
theorem two_one {H : Type} {enc : TypeId × Value → H} {w : World} {base : Nat} {sp : Nat → Bool} {held : Bool} {fuel : Nat} {cs : List Value} {p q : Int} {pl : List MemPlace}
    (h : DataW.trod enc Tryd.prog w base sp held fuel 148 cs = some (.agg [.lit (.int .i64 p), .lit (.int .i64 q)], pl)) : cs = [.int .i64 p, .int .i64 q] := by
  have := Lib.cells_of_tab (k := .i64) (zs := [p, q]) Tryd.underlying148 Tryd.underlying3 cInt cTwo h
  simpa using this
theorem form_one {H : Type} {enc : TypeId × Value → H} {w : World} {base : Nat} {sp : Nat → Bool} {held : Bool} {fuel : Nat} {cs : List Value} {s : List UInt8} {p q : Int} {pl : List MemPlace}
    (h : DataW.trod enc Tryd.prog w base sp held fuel 150 cs = some (.agg [.lit (.string s), .agg [.lit (.int .i64 p), .lit (.int .i64 q)]], pl)) : cs = [.string ⟨s.toArray⟩, .int .i64 p, .int .i64 q] := by
  obtain ⟨xs, n, _, hx, hl, hxl, hf⟩ := DataW.trod_struct Tryd.underlying150 h
  rw [cForm] at hl
  have f0 : DataW.trod enc Tryd.prog w base sp held n 9 ((cs.drop 0).take (Tryd.prog.cellsOf 9)) = xs[0]? := hf 0 _ rfl
  have f1 : DataW.trod enc Tryd.prog w base sp held n 148 ((cs.drop 1).take (Tryd.prog.cellsOf 148)) = xs[1]? := hf 1 _ rfl
  rw [cStr] at f0
  rw [cTwo] at f1
  simp only [Prod.mk.injEq, DataW.agg.injEq] at hx
  obtain ⟨c0, c1, c2, rfl⟩ := len3 hl
  have hxl2 : xs.length = 2 := hxl
  obtain ⟨x0, x1, rfl⟩ := len2 hxl2
  simp only [List.map_cons, List.map_nil, List.cons.injEq, and_true] at hx
  simp at f0 f1
  obtain ⟨y0, z0⟩ := x0
  obtain ⟨y1, z1⟩ := x1
  simp only at hx
  rw [← hx.1.1] at f0
  rw [← hx.1.2] at f1
  obtain ⟨b, hb, hb2, _⟩ := DataW.trod_string Tryd.underlying9 f0
  simp only [Prod.mk.injEq, DataW.lit.injEq, Lit.string.injEq] at hb2
  have h2 := two_one f1
  simp only [List.cons.injEq, and_true] at hb h2
  obtain ⟨rfl, rfl⟩ := h2
  rw [hb, hb2.1]

/-- The rows of the table of forms. -/
def formRows : List (List UInt8 × Int × Int) := [([], 0, 0), ([115, 101, 116], 6, 1000), ([99, 111, 112, 121], 6, 6), ([97, 100, 100], 6, 6), ([115, 117, 98], 6, 6), ([109, 117, 108], 6, 6), ([122, 101, 114, 111], 6, 0), ([106, 117, 109, 112], 1, 0), ([115, 101, 110, 100], 6, 12), ([116, 97, 107, 101], 6, 12), ([114, 101, 115, 116], 1, 1), ([102, 97, 105, 108], 1, 1)]
def formD {H : Type} (r : List UInt8 × Int × Int) : DataW H := .agg [.lit (.string r.1), .agg [.lit (.int .i64 r.2.1), .lit (.int .i64 r.2.2)]]
theorem forms_of_head {W : World} {rest : List (String × DataW Unit)} (h : laidMet Tryd.prog (("framekeep/code.forms", .agg (formRows.map formD)) :: rest) W) : Forms W := by
  obtain ⟨ps, ⟨g', t', cs, fuel, p, q, hg', ht', hvar, hd, _, _⟩, _⟩ := h
  obtain rfl := Option.some.inj (gForms.symm.trans hg')
  obtain rfl := Option.some.inj (tForms.symm.trans ht')
  obtain ⟨xs, m, _, hx, _, hxl, hel⟩ := DataW.trod_array Tryd.underlying151 hd
  simp only [Prod.mk.injEq, DataW.agg.injEq] at hx
  have hrow : ∀ (i : Nat) r, formRows[i]? = some r → (cs.toList.drop (i * 3)).take 3 = [.string ⟨r.1.toArray⟩, .int .i64 r.2.1, .int .i64 r.2.2] := by
    intro i r hr
    have hi : i < 12 := by
      rcases Nat.lt_or_ge i 12 with h | h
      · exact h
      · rw [List.getElem?_eq_none (show formRows.length ≤ i from h)] at hr; cases hr
    have e1 := hel i hi
    rw [cForm] at e1
    have e2 : (xs.map (·.1))[i]? = some (formD r) := by rw [← hx.1]; simp [hr]
    simp only [List.getElem?_map, Option.map_eq_some_iff] at e2
    obtain ⟨⟨y, z⟩, hy, rfl⟩ := e2
    rw [hy] at e1
    exact form_one e1
  have hcell := fun i => World.var?_cell hg' hvar i
  have hat : ∀ (i j : Nat) r u, formRows[i]? = some r → j < 3 → ([.string ⟨r.1.toArray⟩, .int .i64 r.2.1, .int .i64 r.2.2] : List Value)[j]? = some u → W.cell? ⟨1, i * 3 + j, none⟩ = some u := by
    intro i j r u hr hj hu
    rw [← hrow i r hr] at hu
    rw [List.getElem?_take, if_pos hj, List.getElem?_drop] at hu
    rw [hcell]
    simpa using hu
  intro i v hv
  have hi : i < 36 := by
    rcases Nat.lt_or_ge i 36 with h | h
    · exact h
    · rw [List.getElem?_eq_none (show formsCells.length ≤ i from h)] at hv; cases hv
  have key : ∀ i, i < 36 → ∀ v, formsCells[i]? = some v → ∃ r, formRows[i / 3]? = some r ∧ ([.string ⟨r.1.toArray⟩, .int .i64 r.2.1, .int .i64 r.2.2] : List Value)[i % 3]? = some v := by
    intro i hi v hv
    match i, hi with
    | 0, _ | 1, _ | 2, _ | 3, _ | 4, _ | 5, _ | 6, _ | 7, _ | 8, _ | 9, _ | 10, _ | 11, _ | 12, _ | 13, _ | 14, _ | 15, _ | 16, _ | 17, _ | 18, _ | 19, _ | 20, _ | 21, _ | 22, _ | 23, _ | 24, _ | 25, _ | 26, _ | 27, _ | 28, _ | 29, _ | 30, _ | 31, _ | 32, _ | 33, _ | 34, _ | 35, _ => exact ⟨_, rfl, hv⟩
    | i + 36, h => omega
  obtain ⟨r, h1, h2⟩ := key i hi v hv
  have := hat (i / 3) (i % 3) r v h1 (Nat.mod_lt _ (by decide)) h2
  rwa [show i / 3 * 3 + i % 3 = i by omega] at this
end Go.Proofs.YtfconbblnmbnpaeDoor
namespace Go.Proofs.YtfconbblnmbnpaeDoor
open Go.RowKit

/-- States in a row that can be read. -/
def StL (w : World) (v : Value) (l : List St) : Prop :=
  (l = [] ∧ ∃ ao cap, v = .slice ao 0 cap) ∨ ∃ b off cap, v = .slice (some ⟨b, off, none⟩) l.length cap ∧ l.length ≤ cap ∧ b < w.heap.size ∧ ∀ (i : Nat) s, l[i]? = some s → StC w b (off + i * 8) s
theorem StL.form {w : World} {v : Value} {l : List St} (h : StL w v l) : ∃ ao cap, v = .slice ao l.length cap := by
  rcases h with ⟨rfl, ao, cap, rfl⟩ | ⟨b, off, cap, rfl, _⟩
  · exact ⟨ao, cap, rfl⟩
  · exact ⟨_, cap, rfl⟩
theorem StL.all {w w' : World} {v : Value} {l : List St} (h : StL w v l) (hb : Below w.heap.size w w') : StL w' v l := by
  rcases h with h | ⟨b, off, cap, rfl, hcap, hlt, hc⟩
  · exact Or.inl h
  · exact Or.inr ⟨b, off, cap, rfl, hcap, Nat.lt_of_lt_of_le hlt hb.size, fun i s hi => (hc i s hi).block (hb.block b hlt)⟩
theorem StL.own {w : World} {base : Nat} {v : Value} {l : List St} (h : w.ownsRow base 35 8 v l.length (stCells l)) : StL w v l := by
  have hl := h.lt
  have hcs := @World.ownsRow.cells _ _ _ _ _ _ _ h
  rcases h.2 with ⟨rfl, h0⟩ | ⟨g, cap, cur, rfl, _, _, hcap, _⟩
  · exact Or.inl ⟨List.eq_nil_of_length_eq_zero h0, _, _, rfl⟩
  · have hat : ∀ j u, (stCells l)[j]? = some u → w.cell? ⟨g, j, none⟩ = some u := fun j u hu => by
      have := hcs rfl j u hu
      rwa [Addr.add_lit, Nat.zero_add] at this
    refine Or.inr ⟨g, 0, cap, rfl, hcap, (hl g rfl).2, fun i s hs => ?_⟩
    obtain ⟨q0, q1, q2, q3, q4, q5, q6, q7⟩ := stCells_at l i s hs
    rw [Nat.zero_add]
    exact ⟨hat _ _ q0, hat _ _ q1, hat _ _ q2, hat _ _ q3, hat _ _ q4, hat _ _ q5, hat _ _ q6, hat _ _ q7⟩
end Go.Proofs.YtfconbblnmbnpaeDoor
namespace Go.Proofs.YtfconbblnmbnpaeDoor
open Go.RowKit

/-- Run: the states of a room of a new kernel. -/
def SgtRun (G : World → Prop) : Prop := ∀ (p : PD) (vc vs vw : Value) (n r : Int) (W : World), G W → Pln W vc vs vw p → Calls Tryd.prog 8 #[plV vc p.ticks vs vw, .int .i64 n, .int .i64 r] W fun e w' => ∃ v, e = .returned (.tuple #[v, wErr (runE p n r)]) ∧ StL w' v (if runE p n r = 0 then statesK p n.toNat r.toNat else []) ∧ Below W.heap.size W w'
end Go.Proofs.YtfconbblnmbnpaeDoor
namespace Go.Proofs.YtfconbblnmbnpaeDoor
open Go.RowKit

/-- The first of a room's states. -/
def stsK (p : PD) (t r : Nat) : List St := (List.range t).map fun i => (kT p i).rooms.getD r stNew
theorem stsK_len (p : PD) (t r : Nat) : (stsK p t r).length = t := by simp [stsK]
theorem stsK_succ (p : PD) (t r : Nat) : stsK p (t + 1) r = stsK p t r ++ [(kT p t).rooms.getD r stNew] := by
  unfold stsK
  rw [List.range_succ, List.map_append]
  rfl
theorem stsK_all (p : PD) (n r : Nat) : stsK p (n + 1) r = statesK p n r := rfl
/-- A row of the caller's own has grown. -/
theorem KTouch.rowG {w w2 wa : World} {row : Option Nat} (hb : Below w.heap.size w w2) (hg : w2.grownBy wa row) : KTouch row.toList w wa :=
  ⟨hg.os.trans hb.os, hg.tape.trans hb.tape, hg.output.trans hb.output, Nat.le_trans hb.size hg.size, fun k hk hm => by
    have := hb.size
    exact (hg.block k (by omega) (fun e => hm (by rw [← e]; simp))).trans (hb.block k hk)⟩
/-- A kernel, and a row of states beside it. -/
structure SRn {G : World → Prop} (C : KerC G) (w0 wr : World) (p : PD) (vc vs vw : Value) (kb B r t : Nat) (v : Value) (F : List Nat) : Prop where
  K : C.K w0 wr p vc vs vw (kT p t) kb F
  own : wr.ownsRow B 35 8 v t (stCells (stsK p t r))
  ap : ∀ g, v.ownBlock = some g → g ∉ F
  B1 : w0.heap.size ≤ B
  B2 : B ≤ wr.heap.size
/-- One more state, and a tick. -/
theorem SRn.more {G : World → Prop} {C : KerC G} {w0 wr w3 w8 : World} {p : PD} {vc vs vw : Value} {kb B r t : Nat} {v v' : Value} {F : List Nat} {s : St} (h : SRn C w0 wr p vc vs vw kb B r t v F) (hs : (kT p t).rooms.getD r stNew = s) (b3 : Below wr.heap.size wr w3) (hg : w3.grownBy w8 v.ownBlock)
    (own8 : w8.ownsRow B 35 8 v' (t + 1) (stCells (stsK p t r) ++ [.int .i64 s.p, .int .i64 (s.c 0), .int .i64 (s.c 1), .int .i64 (s.c 2), .int .i64 (s.c 3), .int .i64 (s.c 4), .int .i64 (s.c 5), .bool s.f])) (hnew : ∀ g, v'.ownBlock = some g → v.ownBlock = some g ∨ w3.heap.size ≤ g) (hG : G w0) (hp : plchk p = 0) (ht : t < 1000000) :
    Calls Tryd.prog 24 #[.pointer (some ⟨kb, 0, none⟩)] w8 fun e w' => ∃ a b c d, e = .returned (.agg #[.int .i64 a, .int .i64 b, .int .i64 c, .int .i64 d]) ∧ ∃ F', SRn C w0 w' p vc vs vw kb B r (t + 1) v' F' := by
  have tk := KTouch.rowG b3 hg
  have hK8 := C.frame h.K tk (fun m hm => by
    have hm' : v.ownBlock = some m := by simpa using hm
    exact ⟨h.ap m hm', Nat.le_trans h.B1 (h.own.lt m hm').1⟩)
  refine (C.tick hG hK8 hp (kT_ok hp t) (by rw [kT_time]; omega)).mono ?_
  rintro e w' ⟨rfl, F', hK', tk', hF'⟩
  have hs8 := tk.size
  have hs3 := b3.size
  have hg8 := hg.size
  have hap8 : ∀ g, v'.ownBlock = some g → g ∉ F := fun g hg' hm => by
    rcases hnew g hg' with h1 | h1
    · exact h.ap g h1 hm
    · have := (C.ge h.K g hm).2
      omega
  refine ⟨_, _, _, _, rfl, F', hK', ?_, fun g hg' hm => ?_, h.B1, Nat.le_trans h.B2 (Nat.le_trans hs8 tk'.size)⟩
  · rw [stsK_succ, stCells_snoc, hs]
    exact own_block own8 (fun g hg' => tk'.block g (own8.lt g hg').2 (hap8 g hg'))
  · rcases hF' g hm with h1 | h1
    · exact hap8 g hg' h1
    · have := (own8.lt g hg').2
      omega
set_option maxRecDepth 100000 in
set_option maxHeartbeats 8000000 in
theorem srun_wrong {G : World → Prop} (C : KerC G) (p : PD) (vc vs vw : Value) (n r : Int) (W : World) (hG : G W) (hP : Pln W vc vs vw p) (hp : plchk p ≠ 0) :
    Calls Tryd.prog 8 #[plV vc p.ticks vs vw, .int .i64 n, .int .i64 r] W fun e w' => e = .returned (.tuple #[.slice none 0 0, wErr (plchk p)]) ∧ Below W.heap.size W w' := by
  obtain ⟨ca, cc, rfl⟩ := hP.code.form
  obtain ⟨sa, sc, rfl⟩ := hP.spans.form
  obtain ⟨wa, wc', rfl⟩ := hP.wires.form
  have hx0 := Bx.first W (.slice ca p.code.length cc) p.ticks (.slice sa p.spans.length sc) (.slice wa p.wires.length wc')
  have q1 := C.no p _ _ _ _ (C.all _ _ hG hx0.below) (hP.all hx0.below) hp
  rw [wErr_not hp] at q1 ⊢
  unfold plV at q1 ⊢
  have k0 := hx0.c0
  have k1 := hx0.c1
  have k2 := hx0.c2
  have k3 := hx0.c3
  clear hP hG
  generalize plchk p = z at q1 hp ⊢
  go_enter Tryd.func8, Tryd.ntmps8
  go_wp2_with (go_at_call 22; refine q1.mono ?_; rintro e w1 ⟨x, rfl, b1⟩)
  go_ret2
  exact ⟨rfl, (hx0.step b1).below⟩
set_option maxRecDepth 100000 in
set_option maxHeartbeats 8000000 in
theorem srun_n {G : World → Prop} (C : KerC G) (p : PD) (vc vs vw : Value) (n r : Int) (W : World) (hG : G W) (hP : Pln W vc vs vw p) (hp : plchk p = 0) (hn : n < 0 ∨ 2000 < n) :
    Calls Tryd.prog 8 #[plV vc p.ticks vs vw, .int .i64 n, .int .i64 r] W fun e w' => e = .returned (.tuple #[.slice none 0 0, wErr 1]) ∧ Below W.heap.size W w' := by
  obtain ⟨ca, cc, rfl⟩ := hP.code.form
  obtain ⟨sa, sc, rfl⟩ := hP.spans.form
  obtain ⟨wa, wc', rfl⟩ := hP.wires.form
  have hx0 := Bx.first W (.slice ca p.code.length cc) p.ticks (.slice sa p.spans.length sc) (.slice wa p.wires.length wc')
  have q1 : Calls Tryd.prog 22 #[.agg #[.slice ca p.code.length cc, .int .i64 p.ticks, .slice sa p.spans.length sc, .slice wa p.wires.length wc']] (W.alloc (.cells #[.slice ca p.code.length cc, .int .i64 p.ticks, .slice sa p.spans.length sc, .slice wa p.wires.length wc'] 26)) fun e w' => ∃ kb, e = .returned (.tuple #[.pointer (some ⟨kb, 0, none⟩), .nilIface]) ∧ Below W.heap.size W w' := by
    refine (C.new p _ _ _ _ (C.all _ _ hG hx0.below) (hP.all hx0.below) hp).mono ?_
    rintro e w' ⟨kb, F, rfl, hK⟩
    exact ⟨kb, rfl, hx0.below.trans ((C.since hK).mono (by simp))⟩
  unfold plV
  have k0 := hx0.c0
  have k1 := hx0.c1
  have k2 := hx0.c2
  have k3 := hx0.c3
  clear hP hG hp
  have hcase : decide (n < 0) = true ∨ (decide (n < 0) = false ∧ decide (2000 < n) = true) := by
    by_cases h : n < 0
    · exact Or.inl (decide_eq_true h)
    · exact Or.inr ⟨decide_eq_false h, decide_eq_true (hn.resolve_left h)⟩
  clear hn
  rcases hcase with h1 | ⟨h1, h2⟩
  · go_enter Tryd.func8, Tryd.ntmps8
    go_wp2_with (go_at_call 22; refine q1.mono ?_; rintro e w1 ⟨kb, rfl, b1⟩)
    go_ret2
    exact ⟨rfl, b1⟩
  · go_enter Tryd.func8, Tryd.ntmps8
    go_wp2_with (go_at_call 22; refine q1.mono ?_; rintro e w1 ⟨kb, rfl, b1⟩)
    go_ret2
    exact ⟨rfl, b1⟩
set_option maxRecDepth 100000 in
set_option maxHeartbeats 8000000 in
theorem srun_room {G : World → Prop} (C : KerC G) (p : PD) (vc vs vw : Value) (n : Nat) (r : Int) (W : World) (hG : G W) (hP : Pln W vc vs vw p) (hp : plchk p = 0) (hn : n ≤ 2000) (hr : r < 0 ∨ (p.code.length : Int) ≤ r) :
    Calls Tryd.prog 8 #[plV vc p.ticks vs vw, .int .i64 n, .int .i64 r] W fun e w' => e = .returned (.tuple #[.slice none 0 0, wErr 1]) ∧ Below W.heap.size W w' := by
  obtain ⟨ca, cc, rfl⟩ := hP.code.form
  obtain ⟨sa, sc, rfl⟩ := hP.spans.form
  obtain ⟨wa, wc', rfl⟩ := hP.wires.form
  have hx0 := Bx.first W (.slice ca p.code.length cc) p.ticks (.slice sa p.spans.length sc) (.slice wa p.wires.length wc')
  have q1 : Calls Tryd.prog 22 #[.agg #[.slice ca p.code.length cc, .int .i64 p.ticks, .slice sa p.spans.length sc, .slice wa p.wires.length wc']] (W.alloc (.cells #[.slice ca p.code.length cc, .int .i64 p.ticks, .slice sa p.spans.length sc, .slice wa p.wires.length wc'] 26)) fun e w' => ∃ kb, e = .returned (.tuple #[.pointer (some ⟨kb, 0, none⟩), .nilIface]) ∧ Below W.heap.size W w' ∧ Calls Tryd.prog 23 #[.pointer (some ⟨kb, 0, none⟩), .int .i64 r] w' fun e w2 => e = .returned (.tuple #[stA stNew, wErr 1]) ∧ Below w'.heap.size w' w2 := by
    refine (C.new p _ _ _ _ (C.all _ _ hG hx0.below) (hP.all hx0.below) hp).mono ?_
    rintro e w' ⟨kb, F, rfl, hK⟩
    have hno : noRoom (newK p) r = true := by
      have hl : (newK p).rooms.length = p.code.length := by simp [newK]
      unfold noRoom
      rw [hl, Bool.or_eq_true]
      rcases hr with h | h
      · exact Or.inl (decide_eq_true h)
      · exact Or.inr (decide_eq_true h)
    have hS := C.state r hK (kT_ok hp 0) hp
    have hrk : roomK (newK p) r = stNew := by
      unfold roomK
      rw [if_pos hno]
    rw [hrk, hno] at hS
    exact ⟨kb, rfl, hx0.below.trans ((C.since hK).mono (by simp)), hS⟩
  unfold plV
  have k0 := hx0.c0
  have k1 := hx0.c1
  have k2 := hx0.c2
  have k3 := hx0.c3
  clear hP hG hp hr
  have hn0 : decide ((n : Int) < 0) = false := decide_eq_false (by omega)
  have hn1 : decide (2000 < (n : Int)) = false := decide_eq_false (by omega)
  have hn3 : (0 : Int) < (n : Int) + 1 := by omega
  unfold stA stNew wErr at q1
  go_enter Tryd.func8, Tryd.ntmps8
  go_wp2_with (go_at_call 22; refine q1.mono ?_; rintro e w1 ⟨kb, rfl, b1, q2⟩)
  refine wp_loop_rounds 1 ?_
  rw [rounds_succ]
  go_wp2_with (go_at_call 23; refine q2.mono ?_; rintro e w2 ⟨rfl, b2⟩)
  go_ret2
  refine ⟨rfl, ?_⟩
  have hb := b1.trans (b2.mono b1.size)
  have hs := hb.size
  repeat' first | exact hb | refine Below.drew ?_ | refine Below.alloc ?_ (by first | omega | (simp; omega)) _ | refine Below.setCell ?_ (by first | omega | (simp; omega)) _
set_option maxRecDepth 100000 in
set_option maxHeartbeats 8000000 in
theorem srun_ok {G : World → Prop} (C : KerC G) (p : PD) (vc vs vw : Value) (n r : Nat) (W : World) (hG : G W) (hP : Pln W vc vs vw p) (hp : plchk p = 0) (hn : n ≤ 2000) (hr : r < p.code.length) :
    Calls Tryd.prog 8 #[plV vc p.ticks vs vw, .int .i64 n, .int .i64 r] W fun e w' => ∃ v, e = .returned (.tuple #[v, .nilIface]) ∧ StL w' v (statesK p n r) ∧ Below W.heap.size W w' := by
  obtain ⟨jj, hj, hy0, hy1, hy2⟩ := info_parts infoSt
  obtain ⟨ca, cc, rfl⟩ := hP.code.form
  obtain ⟨sa, sc, rfl⟩ := hP.spans.form
  obtain ⟨wa, wc', rfl⟩ := hP.wires.form
  have hx0 := Bx.first W (.slice ca p.code.length cc) p.ticks (.slice sa p.spans.length sc) (.slice wa p.wires.length wc')
  have HG : Hid (G (W.alloc (.cells #[.slice ca p.code.length cc, .int .i64 p.ticks, .slice sa p.spans.length sc, .slice wa p.wires.length wc'] 26))) := C.all _ _ hG hx0.below
  have hA := hx0.below
  have HN : Hid (Calls Tryd.prog 22 #[.agg #[.slice ca p.code.length cc, .int .i64 p.ticks, .slice sa p.spans.length sc, .slice wa p.wires.length wc']] (W.alloc (.cells #[.slice ca p.code.length cc, .int .i64 p.ticks, .slice sa p.spans.length sc, .slice wa p.wires.length wc'] 26)) fun e w' => ∃ kb F, e = .returned (.tuple #[.pointer (some ⟨kb, 0, none⟩), .nilIface]) ∧ C.K (W.alloc (.cells #[.slice ca p.code.length cc, .int .i64 p.ticks, .slice sa p.spans.length sc, .slice wa p.wires.length wc'] 26)) w' p (.slice ca p.code.length cc) (.slice sa p.spans.length sc) (.slice wa p.wires.length wc') (newK p) kb F) := C.new p _ _ _ _ HG.out (hP.all hx0.below) hp
  unfold plV
  have k0 := hx0.c0
  have k1 := hx0.c1
  have k2 := hx0.c2
  have k3 := hx0.c3
  have HGs : Hid (∀ t, noRoom (kT p t) r = false ∧ roomK (kT p t) r = (kT p t).rooms.getD r stNew) := fun t => by
    have hl : (kT p t).rooms.length = p.code.length := (kT_ok hp t).rl
    have hno : noRoom (kT p t) r = false := by
      unfold noRoom
      rw [hl, Bool.or_eq_false_iff]
      exact ⟨decide_eq_false (by omega), decide_eq_false (by omega)⟩
    refine ⟨hno, ?_⟩
    unfold roomK
    rw [if_neg (by rw [hno]; decide), Int.toNat_natCast]
  clear hP hG
  have hn0 : decide ((n : Int) < 0) = false := decide_eq_false (by omega)
  have hn1 : decide (2000 < (n : Int)) = false := decide_eq_false (by omega)
  go_enter Tryd.func8, Tryd.ntmps8
  go_wp2_with (go_at_call 22; refine HN.out.mono ?_; rintro e w1 ⟨kb, F, rfl, hK⟩)
  clear HN
  generalize W.alloc (.cells #[.slice ca p.code.length cc, .int .i64 p.ticks, .slice sa p.spans.length sc, .slice wa p.wires.length wc'] 26) = W0 at *
  go_loopw [10, 30] (fun v i wr => ∃ (t : Nat) (F : List Nat), t ≤ n + 1 ∧ i = .int .i64 t ∧ SRn C W0 wr p (.slice ca p.code.length cc) (.slice sa p.spans.length sc) (.slice wa p.wires.length wc') kb w1.heap.size r t v F) (fun _ i _ => n + 1 - (intOf i).toNat)
  case atStart => exact ⟨0, F, Nat.zero_le _, rfl, hK, World.ownsRow_nil _ _ _ _, fun g hg => (by cases hg), (C.since hK).size, Nat.le_refl _⟩
  case round =>
    clear hK
    obtain ⟨t, F', htn, rfl, hst⟩ := hrel
    obtain ⟨vo, vn, vk, rfl⟩ := own_form hst.own
    have hbw := C.since hst.K
    by_cases htl : t < n + 1
    · have hti : (t : Int) < (n : Int) + 1 := by omega
      obtain ⟨hno, hrk⟩ := HGs.out t
      obtain ⟨s, hs⟩ : ∃ s, (kT p t).rooms.getD r stNew = s := ⟨_, rfl⟩
      have HS : Hid ((kT p t).rooms.getD r stNew = s) := hs
      have hS := C.state r hst.K (kT_ok hp t) hp
      rw [hno, hrk, hs] at hS
      have HT : Hid (Calls Tryd.prog 23 #[.pointer (some ⟨kb, 0, none⟩), .int .i64 r] wr fun e w2 => e = .returned (.tuple #[.agg #[.int .i64 s.p, .int .i64 (s.c 0), .int .i64 (s.c 1), .int .i64 (s.c 2), .int .i64 (s.c 3), .int .i64 (s.c 4), .int .i64 (s.c 5), .bool s.f], .nilIface]) ∧ Below wr.heap.size wr w2) := hS
      have HR : Hid (SRn C W0 wr p (.slice ca p.code.length cc) (.slice sa p.spans.length sc) (.slice wa p.wires.length wc') kb w1.heap.size r t (.slice vo vn vk) F') := hst
      have hown0 := hst.own
      have hB2 := hst.B2
      clear hS hs hst hno hrk
      go_upto_region 9 with fail
      go_cut [11, 12, 30] from 30 to 47 (fun s11 s12 s30 wx => s12 = .nilIface ∧ s30 = .int .i64 t ∧ ∃ g, s11 = .pointer (some ⟨g, 0, none⟩) ∧ StC wx g 0 s ∧ Below wr.heap.size wr wx)
      case first =>
        go_wp2_with (go_at_call 23; refine HT.out.mono ?_; rintro e w2 ⟨rfl, b2⟩)
        go_meet
        case rel =>
          refine ⟨rfl, rfl, w2.heap.size, rfl, ?_, ?_⟩
          · constructor <;> simp [go_sem]
          · have hs2 := b2.size
            repeat' first | exact b2 | refine Below.drew ?_ | refine Below.alloc ?_ (by first | omega | (simp; omega)) _ | refine Below.setCell ?_ (by first | omega | (simp; omega)) _
      case rest =>
        obtain ⟨rfl, rfl, g, rfl, hsc, hbc⟩ := hcut
        obtain ⟨q0, q1, q2, q3, q4, q5, q6, q7⟩ := hsc
        have own3 := own_block hown0 (fun k hk => hbc.block k (hown0.lt k hk).2)
        have hsz := hbc.size
        clear HT hown0
        go_wp2_with (at_builtin; refine wpList_append_at _ rfl _ _ 27 rfl w1.heap.size 35 jj _ 8 64 Tryd.underlying27 hj hy0 hy1 hy2 rfl (by decide) _ _ _ rfl (own3.alloc _) ⟨wc.heap.size, 0, none⟩ 1 1 [.int .i64 s.p, .int .i64 (s.c 0), .int .i64 (s.c 1), .int .i64 (s.c 2), .int .i64 (s.c 3), .int .i64 (s.c 4), .int .i64 (s.c 5), .bool s.f] rfl rfl ?c1A ?c2A ?c3A ?c4A ?c5A ?_)
        try (case c1A => exact st_new rfl s _)
        case c2A => first | exact st_one s | exact ⟨rfl, rfl, rfl, rfl, rfl, rfl, rfl, rfl⟩
        case c3A => unfold maxLen; omega
        case c4A => omega
        case c5A => first | omega | (simp; omega)
        intro v1 w8 own8 hg8 hnw8
        have hb3 : Below wr.heap.size wr (wc.alloc (.cells #[.int .i64 s.p, .int .i64 (s.c 0), .int .i64 (s.c 1), .int .i64 (s.c 2), .int .i64 (s.c 3), .int .i64 (s.c 4), .int .i64 (s.c 5), .bool s.f] 35)) := hbc.alloc hbc.size _
        have HQ : Hid (Calls Tryd.prog 24 #[.pointer (some ⟨kb, 0, none⟩)] w8 fun e w' => ∃ a b c d, e = .returned (.agg #[.int .i64 a, .int .i64 b, .int .i64 c, .int .i64 d]) ∧ ∃ F', SRn C W0 w' p (.slice ca p.code.length cc) (.slice sa p.spans.length sc) (.slice wa p.wires.length wc') kb w1.heap.size r (t + 1) v1 F') := HR.out.more HS.out hb3 hg8 own8 (fun g hg => by have := hnw8 g hg; simpa using this) HG.out hp (by omega)
        obtain ⟨g8, cap8, rfl⟩ := own_succ own8
        clear own8 hg8 hnw8 own3 q0 q1 q2 q3 q4 q5 q6 q7 hb3
        go_wp2_with (go_at_call 24; refine HQ.out.mono ?_; rintro e w9 ⟨ea, eb, ec, ed, rfl, F9, hst9⟩)
        go_roundw
        case rel => exact ⟨t + 1, F9, by omega, by go_num, hst9⟩
        case measure => simp [intOf]; omega
    · obtain rfl : t = n + 1 := by omega
      have hti : decide (((n + 1 : Nat) : Int) < (n : Int) + 1) = false := decide_eq_false (by omega)
      have HS : Hid (StL wr (.slice vo vn vk) (statesK p n r)) := StL.own (by rw [statesK_len]; exact hst.own)
      have HB' : Hid (Below W.heap.size W wr) := hA.trans (hbw.mono hA.size)
      clear hst
      go_wp2
      go_ret2
      exact ⟨_, rfl, HS.out, HB'.out⟩
/-- Run does what the laws of sight ask of it. -/
theorem sgt_run {G : World → Prop} (C : KerC G) : SgtRun G := fun p vc vs vw n r W hG hP => by
  by_cases hp : plchk p = 0
  · by_cases hn : n < 0 ∨ 2000 < n
    · have he : runE p n r = 1 := by
        unfold runE
        rw [if_pos hp, if_pos (by omega)]
      rw [he]
      refine (srun_n C p vc vs vw n r W hG hP hp hn).mono ?_
      rintro e w' ⟨rfl, hb⟩
      exact ⟨_, rfl, Or.inl ⟨rfl, _, _, rfl⟩, hb⟩
    · obtain ⟨n, rfl⟩ : ∃ m : Nat, n = m := ⟨n.toNat, by omega⟩
      by_cases hr : r < 0 ∨ (p.code.length : Int) ≤ r
      · have he : runE p n r = 1 := by
          unfold runE
          rw [if_pos hp, if_pos (by omega)]
        rw [he]
        refine (srun_room C p vc vs vw n r W hG hP hp (by omega) hr).mono ?_
        rintro e w' ⟨rfl, hb⟩
        exact ⟨_, rfl, Or.inl ⟨rfl, _, _, rfl⟩, hb⟩
      · obtain ⟨r, rfl⟩ : ∃ m : Nat, r = m := ⟨r.toNat, by omega⟩
        have he : runE p n r = 0 := by
          unfold runE
          rw [if_pos hp, if_neg (by omega)]
        rw [he, if_pos rfl, Int.toNat_natCast, Int.toNat_natCast]
        exact srun_ok C p vc vs vw n r W hG hP hp (by omega) (by omega)
  · have he : runE p n r = plchk p := by
      unfold runE
      rw [if_neg hp]
    rw [he, if_neg hp]
    refine (srun_wrong C p vc vs vw n r W hG hP hp).mono ?_
    rintro e w' ⟨rfl, hb⟩
    exact ⟨_, rfl, Or.inl ⟨rfl, _, _, rfl⟩, hb⟩
end Go.Proofs.YtfconbblnmbnpaeDoor
namespace Go.Proofs.YtfconbblnmbnpaeDoor
open Go.RowKit

set_option maxRecDepth 100000 in
set_option maxHeartbeats 1000000 in
theorem hit_any (s : S3) (tb : Nat) (t : Int) (w : World) (ht : w.cell? ⟨tb, 0, none⟩ = some (.int .i64 t)) :
    Calls Tryd.prog 89 #[.agg #[.int .i64 s.1, .int .i64 s.2.1, .int .i64 s.2.2], .pointer (some ⟨tb, 0, none⟩)] w fun e w' => e = .returned (.bool (hits t s)) ∧ Below w.heap.size w w' := by
  have hlt := ltc ht
  have hn : tb ≠ w.heap.size := by omega
  obtain ⟨a, b, r⟩ := s
  simp only
  by_cases h1 : a ≤ t
  · by_cases h2 : t < b
    · have HF : Hid (hits t (a, b, r) = true) := by show _ = _; simp [hits, h1, h2]
      go_enter Tryd.func89, Tryd.ntmps89
      go_wp2
      go_ret
      exact ⟨retB HF.out.symm, (Below.refl _ _).alloc (Nat.le_refl _) _⟩
    · have h2' : decide (t < b) = false := by simpa using h2
      have HF : Hid (hits t (a, b, r) = false) := by show _ = _; simp [hits, h2]
      go_enter Tryd.func89, Tryd.ntmps89
      go_wp2
      go_ret
      exact ⟨retB HF.out.symm, (Below.refl _ _).alloc (Nat.le_refl _) _⟩
  · have h1' : decide (a ≤ t) = false := by simpa using h1
    have HF : Hid (hits t (a, b, r) = false) := by show _ = _; simp [hits, h1]
    go_enter Tryd.func89, Tryd.ntmps89
    go_wp2
    go_ret
    exact ⟨retB HF.out.symm, (Below.refl _ _).alloc (Nat.le_refl _) _⟩

theorem hidx_some {l : List S3} {t : Int} {k : Nat} (h : l.findIdx? (hits t) = some k) : hidx l t = k := by unfold hidx; rw [h]
theorem hidx_none {l : List S3} {t : Int} (h : l.findIdx? (hits t) = none) : hidx l t = -1 := by unfold hidx; rw [h]

set_option maxRecDepth 100000 in
set_option maxHeartbeats 2000000 in
theorem idxHold (l : List S3) (t : Int) (b off cap tb : Nat) (w : World) (ht : w.cell? ⟨tb, 0, none⟩ = some (.int .i64 t)) (hlen : l.length ≤ 12) (hlt : b < w.heap.size) (hc : SpC w b off l) :
    Calls Tryd.prog 65 #[.slice (some ⟨b, off, none⟩) l.length cap, .func (.func 89) #[] #[.pointer (some ⟨tb, 0, none⟩)]] w fun e w' =>
      e = .returned (.int .i64 (hidx l t)) ∧ Below w.heap.size w w' := by
  have hlt1 := ltc ht
  go_enter Tryd.func65, Tryd.ntmps65
  go_wp2
  go_loopw [8] (fun i wr => ∃ k : Nat, k ≤ l.length ∧ i = .int .i64 k ∧ (∀ (j : Nat) x, j < k → l[j]? = some x → hits t x = false) ∧ Below w.heap.size w wr) (fun i _ => l.length - (intOf i).toNat)
  case atStart => exact ⟨0, Nat.zero_le _, rfl, fun j x hj => by omega, Below.refl _ _⟩
  case round =>
    obtain ⟨k, hk, rfl, hall, hb⟩ := hrel
    have e1 : wr.cell? ⟨tb, 0, none⟩ = some (.int .i64 t) := (hb.cell (p := ⟨tb, 0, none⟩) hlt1).trans ht
    have Hall : Hid (∀ (j : Nat) x, j < k → l[j]? = some x → hits t x = false) := hall
    clear hall
    by_cases hkl : k < l.length
    · obtain ⟨o, ho⟩ : ∃ o, l[k]? = some o := ⟨l[k], List.getElem?_eq_getElem hkl⟩
      have HO : Hid (l[k]? = some o) := ho
      obtain ⟨c0, c1, c2⟩ := hc.below hb hlt k o ho
      clear ho
      have hon := hit_any o tb t wr e1
      clear e1
      cases hok : hits t o with
      | false =>
        have HN : Hid (hits t o = false) := hok
        rw [hok] at hon
        clear hok
        go_wp2_with (go_at_call 89; refine hon.mono ?_; rintro e w1 ⟨rfl, b1⟩; clear hon)
        go_roundw
        case rel =>
          refine ⟨k + 1, by omega, by go_num, fun j x hj hx => ?_, hb.trans (b1.mono hb.size)⟩
          by_cases hjk : j < k
          · exact Hall.out j x hjk hx
          · obtain rfl : j = k := by omega
            rw [HO.out] at hx
            obtain rfl := Option.some.inj hx
            exact HN.out
        case measure => simp [intOf]; omega
      | true =>
        have HF : Hid (l.findIdx? (hits t) = some k) := fidx_hit Hall.out HO.out hok
        rw [hok] at hon
        clear hok
        go_wp2_with (go_at_call 89; refine hon.mono ?_; rintro e w1 ⟨rfl, b1⟩; clear hon)
        go_ret
        exact ⟨retI (hidx_some HF.out).symm, hb.trans (b1.mono hb.size)⟩
    · have HF : Hid (l.findIdx? (hits t) = none) := fidx_miss (fun i x hi hx => Hall.out i x (by omega) hx)
      clear e1
      go_wp2
      go_ret
      exact ⟨retI (hidx_none HF.out).symm, hb⟩
set_option maxRecDepth 100000 in
set_option maxHeartbeats 2000000 in
theorem idxHold_nil (fn : Value) (a : Option Addr) (cap : Nat) (w : World) :
    Calls Tryd.prog 65 #[.slice a 0 cap, fn] w fun e w' => e = .returned (.int .i64 (-1)) ∧ Below w.heap.size w w' := by
  go_enter Tryd.func65, Tryd.ntmps65
  go_wp2
  refine wp_loop_rounds 1 ?_
  rw [rounds_succ]
  go_wp2
  go_ret
  exact ⟨rfl, Below.refl _ _⟩

set_option maxRecDepth 100000 in
set_option maxHeartbeats 2000000 in
theorem holder_nil (a : Option Addr) (cap : Nat) (t : Int) (w : World) :
    Calls Tryd.prog 80 #[.slice a 0 cap, .int .i64 t] w fun e w' => e = .returned (.int .i64 (-1)) ∧ Below w.heap.size w w' := by
  have hI := fun fn W => idxHold_nil fn a cap W
  go_enter Tryd.func80, Tryd.ntmps80
  go_wp2_with (go_at_call 65; refine (hI _ _).mono ?_; rintro e w1 ⟨rfl, b1⟩; clear hI)
  go_ret
  exact ⟨rfl, ((Below.refl _ _).alloc (Nat.le_refl _) _).trans (b1.mono (by simp))⟩
set_option maxRecDepth 100000 in
set_option maxHeartbeats 2000000 in
theorem holder_some (l : List S3) (b off cap : Nat) (t : Int) (w : World) (hlen : l.length ≤ 12) (hlt : b < w.heap.size) (hc : SpC w b off l) :
    Calls Tryd.prog 80 #[.slice (some ⟨b, off, none⟩) l.length cap, .int .i64 t] w fun e w' => e = .returned (.int .i64 (hold l t)) ∧ Below w.heap.size w w' := by
  have b0 : Below w.heap.size w (w.alloc (.cells #[.int .i64 t] 3)) := (Below.refl _ _).alloc (Nat.le_refl _) _
  have hI := idxHold l t b off cap w.heap.size (w.alloc (.cells #[.int .i64 t] 3)) (by simp) hlen (Nat.lt_of_lt_of_le hlt b0.size) (hc.below b0 hlt)
  cases hfi : l.findIdx? (hits t) with
  | none =>
    have HF : Hid (hold l t = -1) := hold_none hfi
    rw [hidx_none hfi] at hI
    clear hfi
    go_enter Tryd.func80, Tryd.ntmps80
    go_wp2_with (go_at_call 65; refine hI.mono ?_; rintro e w1 ⟨rfl, b1⟩; clear hI)
    go_ret
    exact ⟨retI HF.out.symm, b0.trans (b1.mono (by simp))⟩
  | some k =>
    have hk : k < l.length := by
      rw [List.findIdx?_eq_some_iff_getElem] at hfi
      exact hfi.1
    obtain ⟨o, ho⟩ : ∃ o, l[k]? = some o := ⟨l[k], List.getElem?_eq_getElem hk⟩
    have HF : Hid (hold l t = o.2.2) := hold_some hfi ho
    rw [hidx_some hfi] at hI
    obtain ⟨c0, c1, c2⟩ := hc.below b0 hlt k o ho
    have hlt' : b < (w.alloc (.cells #[.int .i64 t] 3)).heap.size := Nat.lt_of_lt_of_le hlt b0.size
    clear hfi ho
    go_enter Tryd.func80, Tryd.ntmps80
    go_wp2_with (go_at_call 65; refine hI.mono ?_; rintro e w1 ⟨rfl, b1⟩; clear hI; have d2 := (b1.cell (p := ⟨b, _, none⟩) hlt').trans c2; clear c0 c1 c2)
    go_ret
    exact ⟨retI HF.out.symm, b0.trans (b1.mono (by simp))⟩
theorem holder_any (l : List S3) (v : Value) (t : Int) (w : World) (hl : Sps w v l) (hlen : l.length ≤ 12) :
    Calls Tryd.prog 80 #[v, .int .i64 t] w fun e w' => e = .returned (.int .i64 (hold l t)) ∧ Below w.heap.size w w' := by
  rcases hl with ⟨rfl, ao, cap, rfl⟩ | ⟨b, off, cap, rfl, _, hlt, hc⟩
  · exact holder_nil ao cap t w
  · exact holder_some l b off cap t w hlen hlt hc
end Go.Proofs.YtfconbblnmbnpaeDoor
namespace Go.Proofs.YtfconbblnmbnpaeDoor
open Go.RowKit

theorem ix0 (x y : Int) (w : World) : (Instr.index 148 (.agg #[.int .i64 x, .int .i64 y]) (.int .i64 0)).run Tryd.prog w = .ok (.int .i64 x) w := by kernel_rfl
theorem ix1 (x y : Int) (w : World) : (Instr.index 148 (.agg #[.int .i64 x, .int .i64 y]) (.int .i64 1)).run Tryd.prog w = .ok (.int .i64 y) w := by kernel_rfl

def bd (p ops : Int) : Int := if p = 0 then ops else p
def fit2 (p q a b ops : Int) : Bool := decide (0 ≤ a ∧ a < bd p ops ∧ 0 ≤ b ∧ b < bd q ops)
theorem bd_zero (ops : Int) : bd 0 ops = ops := rfl
theorem bd_not {p : Int} (h : p ≠ 0) (ops : Int) : bd p ops = p := by simp [bd, h]
theorem fit2_no1 {p q a b ops : Int} (h : a < 0 ∨ bd p ops ≤ a) : fit2 p q a b ops = false := by unfold fit2; simp only [decide_eq_false_iff_not]; omega
theorem fit2_no2 {p q a b ops : Int} (h : b < 0 ∨ bd q ops ≤ b) : fit2 p q a b ops = false := by unfold fit2; simp only [decide_eq_false_iff_not]; omega
theorem fit2_yes {p q a b ops : Int} (h1 : 0 ≤ a) (h2 : a < bd p ops) (h3 : 0 ≤ b) (h4 : b < bd q ops) : fit2 p q a b ops = true := by unfold fit2; simp only [decide_eq_true_eq]; omega

set_option maxRecDepth 100000 in
set_option maxHeartbeats 4000000 in
theorem fits_at (n : Nat) (a b ops p q : Int) (h1 : 1 ≤ n) (h2 : n ≤ 11) (w : World) (c1 : w.cell? ⟨1, n * 3 + 1, none⟩ = some (.int .i64 p)) (c2 : w.cell? ⟨1, n * 3 + 2, none⟩ = some (.int .i64 q)) :
    Calls Tryd.prog 70 #[.agg #[.int .i64 n, .int .i64 a, .int .i64 b], .int .i64 ops] w fun e w' => e = .returned (.bool (fit2 p q a b ops)) ∧ Below w.heap.size w w' := by
  have hlt := lt_of_cell c1
  have i0 := ix0 a b
  have i1 := ix1 a b
  go_enter Tryd.func70, Tryd.ntmps70
  go_wp2
  clear c1 c2
  go_loop [27] (fun i => i = .int .i64 0 ∨ (i = .int .i64 1 ∧ 0 ≤ a ∧ a < bd p ops) ∨ (i = .int .i64 2 ∧ 0 ≤ a ∧ a < bd p ops ∧ 0 ≤ b ∧ b < bd q ops)) (fun i => 2 - (intOf i).toNat)
  case atStart => exact Or.inl rfl
  case round =>
    rcases hrel with rfl | ⟨rfl, ha0, ha1⟩ | ⟨rfl, ha0, ha1, hb0, hb1⟩
    · by_cases hp : p = 0
      · subst hp
        by_cases hA : 0 ≤ a ∧ a < ops
        · obtain ⟨hA1, hA2⟩ := hA
          go_wp2
          go_round
          case rel => exact Or.inr (Or.inl ⟨rfl, hA1, by rw [bd_zero]; exact hA2⟩)
          case measure => simp [intOf]
        · go_wp2
          all_goals first | (go_ret; exact ⟨ret_bool (fit2_no1 (by rw [bd_zero]; omega)).symm, ((Below.refl _ _).alloc (Nat.le_refl _) _).alloc (by simp) _⟩) | (exfalso; omega)
      · have hp' : (p == 0) = false := by simpa using hp
        by_cases hA : 0 ≤ a ∧ a < p
        · obtain ⟨hA1, hA2⟩ := hA
          go_wp2
          go_round
          case rel => exact Or.inr (Or.inl ⟨rfl, hA1, by rw [bd_not hp]; exact hA2⟩)
          case measure => simp [intOf]
        · go_wp2
          all_goals first | (go_ret; exact ⟨ret_bool (fit2_no1 (by rw [bd_not hp]; omega)).symm, ((Below.refl _ _).alloc (Nat.le_refl _) _).alloc (by simp) _⟩) | (exfalso; omega)
    · have HA : Hid (0 ≤ a ∧ a < bd p ops) := ⟨ha0, ha1⟩
      clear ha0 ha1
      by_cases hq : q = 0
      · subst hq
        by_cases hB : 0 ≤ b ∧ b < ops
        · obtain ⟨hB1, hB2⟩ := hB
          go_wp2
          go_round
          case rel => exact Or.inr (Or.inr ⟨rfl, HA.out.1, HA.out.2, hB1, by rw [bd_zero]; exact hB2⟩)
          case measure => simp [intOf]
        · go_wp2
          all_goals first | (go_ret; exact ⟨ret_bool (fit2_no2 (by rw [bd_zero]; omega)).symm, ((Below.refl _ _).alloc (Nat.le_refl _) _).alloc (by simp) _⟩) | (exfalso; omega)
      · have hq' : (q == 0) = false := by simpa using hq
        by_cases hB : 0 ≤ b ∧ b < q
        · obtain ⟨hB1, hB2⟩ := hB
          go_wp2
          go_round
          case rel => exact Or.inr (Or.inr ⟨rfl, HA.out.1, HA.out.2, hB1, by rw [bd_not hq]; exact hB2⟩)
          case measure => simp [intOf]
        · go_wp2
          all_goals first | (go_ret; exact ⟨ret_bool (fit2_no2 (by rw [bd_not hq]; omega)).symm, ((Below.refl _ _).alloc (Nat.le_refl _) _).alloc (by simp) _⟩) | (exfalso; omega)
    · have HF := fit2_yes ha0 ha1 hb0 hb1
      clear ha0 ha1 hb0 hb1
      have HF' : Hid (fit2 p q a b ops = true) := HF
      clear HF
      go_wp2
      go_ret
      exact ⟨ret_bool HF'.out.symm, ((Below.refl _ _).alloc (Nat.le_refl _) _).alloc (by simp) _⟩

theorem forms_at {w : World} (hf : Forms w) (n : Nat) (h1 : 1 ≤ n) (h2 : n ≤ 11) : w.cell? ⟨1, n * 3 + 1, none⟩ = some (.int .i64 (pA n)) ∧ w.cell? ⟨1, n * 3 + 2, none⟩ = some (.int .i64 (pB n)) := by
  have h : n = 1 ∨ n = 2 ∨ n = 3 ∨ n = 4 ∨ n = 5 ∨ n = 6 ∨ n = 7 ∨ n = 8 ∨ n = 9 ∨ n = 10 ∨ n = 11 := by omega
  rcases h with rfl | rfl | rfl | rfl | rfl | rfl | rfl | rfl | rfl | rfl | rfl <;> exact ⟨hf _ _ rfl, hf _ _ rfl⟩
theorem fit2_fitsB (n : Nat) (a b ops : Int) (h1 : 1 ≤ n) (h2 : n ≤ 11) : fit2 (pA n) (pB n) a b ops = fitsB n a b ops := by
  have h : n = 1 ∨ n = 2 ∨ n = 3 ∨ n = 4 ∨ n = 5 ∨ n = 6 ∨ n = 7 ∨ n = 8 ∨ n = 9 ∨ n = 10 ∨ n = 11 := by omega
  rcases h with rfl | rfl | rfl | rfl | rfl | rfl | rfl | rfl | rfl | rfl | rfl <;> simp [fit2, fitsB, pA, pB, bA, bB, bd]

set_option maxRecDepth 100000 in
set_option maxHeartbeats 1000000 in
theorem fits_out (n a b ops : Int) (hn : n < 1 ∨ 11 < n) (w : World) :
    Calls Tryd.prog 70 #[.agg #[.int .i64 n, .int .i64 a, .int .i64 b], .int .i64 ops] w fun e w' => e = .returned (.bool (fitsB n a b ops)) ∧ Below w.heap.size w w' := by
  rcases hn with h | h
  · go_enter Tryd.func70, Tryd.ntmps70
    go_wp2
    go_ret
    exact ⟨ret_bool (fitsB_lo h).symm, (Below.refl _ _).alloc (Nat.le_refl _) _⟩
  · have h' : ¬ n < 1 := by omega
    go_enter Tryd.func70, Tryd.ntmps70
    go_wp2
    go_ret
    exact ⟨ret_bool (fitsB_hi h).symm, (Below.refl _ _).alloc (Nat.le_refl _) _⟩

theorem fits_any (n a b ops : Int) (w : World) (hf : Forms w) :
    Calls Tryd.prog 70 #[.agg #[.int .i64 n, .int .i64 a, .int .i64 b], .int .i64 ops] w fun e w' => e = .returned (.bool (fitsB n a b ops)) ∧ Below w.heap.size w w' := by
  by_cases h : 1 ≤ n ∧ n ≤ 11
  · obtain ⟨m, rfl⟩ : ∃ m : Nat, n = m := ⟨n.toNat, by omega⟩
    have hc := forms_at hf m (by omega) (by omega)
    rw [← fit2_fitsB m a b ops (by omega) (by omega)]
    exact fits_at m a b ops _ _ (by omega) (by omega) w hc.1 hc.2
  · exact fits_out n a b ops (by omega) w
end Go.Proofs.YtfconbblnmbnpaeDoor
