/-
  KTouchL, KTurnM, KVal, KTurnW, CloneOp, GClone, EvM, TrcC, TrcCR, TcWi, KSet, KerN, POpen, TcRunN, StRow, TrTurns: joined into one text.
-/
import Derived.Test.YtkoomlnndnjllahDoorJa1
import Derived.Deep.RegionLaw
import Derived.Deep.RegionWith
import Derived.Lib.SliceRun
import Derived.Deep.MidRow
import Derived.Lib.SmallJoins
import Derived.Deep.Slices
import Derived.Deep.CutRange
namespace Go.Proofs.YtkoomlnndnjllahDoor
open Go.RowKit

/-- What a call leaves alone: all blocks that were there, but those that are named. -/
structure KTouch (M : List Nat) (w w' : World) : Prop where
  os : w'.os = w.os
  tape : w'.tape = w.tape
  output : w'.output = w.output
  size : w.heap.size ≤ w'.heap.size
  block : ∀ k, k < w.heap.size → k ∉ M → w'.heap[k]? = w.heap[k]?
theorem KTouch.refl (M : List Nat) (w : World) : KTouch M w w := ⟨rfl, rfl, rfl, Nat.le_refl _, fun _ _ _ => rfl⟩
theorem KTouch.trans {M : List Nat} {a b c : World} (h : KTouch M a b) (g : KTouch M b c) : KTouch M a c :=
  ⟨g.os.trans h.os, g.tape.trans h.tape, g.output.trans h.output, Nat.le_trans h.size g.size, fun k hk hm => (g.block k (Nat.lt_of_lt_of_le hk h.size) hm).trans (h.block k hk hm)⟩
theorem KTouch.of {M : List Nat} {w w' : World} (h : Below w.heap.size w w') : KTouch M w w' := ⟨h.os, h.tape, h.output, h.size, fun k hk _ => h.block k hk⟩
theorem KTouch.set {M : List Nat} (w : World) {b : Nat} (hb : b ∈ M) (i : Nat) (v : Value) : KTouch M w (w.setCell ⟨b, i, none⟩ v) :=
  ⟨rfl, rfl, rfl, by simp, fun k _ hm => Below.heap_setCell _ _ _ _ (fun e => hm (by rw [show k = b from e]; exact hb))⟩
theorem KTouch.below {M : List Nat} {w w' : World} (h : KTouch M w w') {B : Nat} (hB : ∀ b ∈ M, B ≤ b) (hw : B ≤ w.heap.size) : Below B w w' :=
  ⟨h.os, h.tape, h.output, h.size, fun k hk => h.block k (by omega) (fun hm => by have := hB k hm; omega)⟩
theorem KTouch.drew {M : List Nat} {w w' : World} (h : KTouch M w w') : KTouch M w w'.drew := h.trans (KTouch.of (Below.refl _ _).drew)
theorem KTouch.more {M M' : List Nat} {w w' w'' : World} (h : KTouch M w w') (g : KTouch M' w' w'') (hn : ∀ m ∈ M', w.heap.size ≤ m) : KTouch M w w'' :=
  ⟨g.os.trans h.os, g.tape.trans h.tape, g.output.trans h.output, Nat.le_trans h.size g.size, fun k hk hm => (g.block k (Nat.lt_of_lt_of_le hk h.size) (fun hm' => by have := hn k hm'; omega)).trans (h.block k hk hm)⟩
theorem KTouch.mono {M M' : List Nat} {w w' : World} (h : KTouch M w w') (hm : ∀ m ∈ M, m ∈ M') : KTouch M' w w' := ⟨h.os, h.tape, h.output, h.size, fun k hk hn => h.block k hk (fun h2 => hn (hm k h2))⟩
/-- The cells of a state. -/
structure StC (w : World) (b o : Nat) (s : St) : Prop where
  p : w.cell? ⟨b, o, none⟩ = some (.int .i64 s.p)
  c0 : w.cell? ⟨b, o + 1, none⟩ = some (.int .i64 (s.c 0))
  c1 : w.cell? ⟨b, o + 2, none⟩ = some (.int .i64 (s.c 1))
  c2 : w.cell? ⟨b, o + 3, none⟩ = some (.int .i64 (s.c 2))
  c3 : w.cell? ⟨b, o + 4, none⟩ = some (.int .i64 (s.c 3))
  c4 : w.cell? ⟨b, o + 5, none⟩ = some (.int .i64 (s.c 4))
  c5 : w.cell? ⟨b, o + 6, none⟩ = some (.int .i64 (s.c 5))
  f : w.cell? ⟨b, o + 7, none⟩ = some (.bool s.f)
theorem StC.block {w w' : World} {b o : Nat} {s : St} (h : StC w b o s) (hb : w'.heap[b]? = w.heap[b]?) : StC w' b o s := by
  have hc := fun i => World.cell?_of_block (w := w) (w' := w') (a := ⟨b, i, none⟩) hb
  exact ⟨(hc _).trans h.p, (hc _).trans h.c0, (hc _).trans h.c1, (hc _).trans h.c2, (hc _).trans h.c3, (hc _).trans h.c4, (hc _).trans h.c5, (hc _).trans h.f⟩
/-- A cell is another number. -/
def pokeS (s : St) (c : Nat) (n : Int) : St := ⟨s.p, fun i => if i = c then n else s.c i, s.f⟩
/-- What is wrong with a poke. -/
def pokeB (k : KD) (r c n : Int) : Bool := decide (r < 0) || decide ((k.rooms.length : Int) ≤ r) || decide (c < 0) || decide (5 < c) || decide (n < 0) || decide (999 < n)
/-- .. as a number. -/
def pokeN (k : KD) (r c n : Int) : Int := if pokeB k r c n = true then 1 else 0
def pokeK (k : KD) (r c n : Int) : KD := if pokeB k r c n = true then k else ⟨k.rooms.set r.toNat (pokeS (k.rooms.getD r.toNat stNew) c.toNat n), k.lines, k.time⟩
theorem pokeB_false {k : KD} {r c n : Int} (h : pokeB k r c n = false) : 0 ≤ r ∧ r < k.rooms.length ∧ 0 ≤ c ∧ c ≤ 5 ∧ 0 ≤ n ∧ n ≤ 999 := by
  unfold pokeB at h
  simp only [Bool.or_eq_false_iff, decide_eq_false_iff_not] at h
  omega
theorem pokeS_ok {s : St} {m : Nat} (h : stOk s m = true) {c : Nat} {n : Int} (hn : 0 ≤ n ∧ n ≤ 999) : stOk (pokeS s c n) m = true := by
  obtain ⟨h1, h2, h3⟩ := stOk_iff.1 h
  refine stOk_iff.2 ⟨h1, h2, fun i hi => ?_⟩
  show 0 ≤ (if i = c then n else s.c i) ∧ (if i = c then n else s.c i) ≤ 999
  split
  · exact hn
  · exact h3 i hi
theorem poke_ok {p : PD} {k : KD} (hk : KOk p k) (r c n : Int) : KOk p (pokeK k r c n) := by
  unfold pokeK
  cases hb : pokeB k r c n with
  | true => rw [if_pos rfl]; exact hk
  | false =>
    rw [if_neg (by decide)]
    obtain ⟨h0, h1, h2, h3, h4, h5⟩ := pokeB_false hb
    refine ⟨by simp only [List.length_set]; exact hk.rl, hk.ll, fun i c' s hc hs => ?_, hk.lines, hk.lost, hk.time⟩
    simp only at hs
    by_cases hij : r.toNat = i
    · subst hij
      have hlt : r.toNat < k.rooms.length := by omega
      rw [List.getElem?_set_self hlt] at hs
      obtain rfl := Option.some.inj hs
      have hs0 : k.rooms[r.toNat]? = some k.rooms[r.toNat] := List.getElem?_eq_getElem hlt
      rw [show k.rooms.getD r.toNat stNew = k.rooms[r.toNat] by simp [List.getD, hs0]]
      exact pokeS_ok (hk.rooms _ _ _ hc hs0) ⟨h4, h5⟩
    · rw [List.getElem?_set_ne hij] at hs
      exact hk.rooms i c' s hc hs
end Go.Proofs.YtkoomlnndnjllahDoor
namespace Go.Proofs.YtkoomlnndnjllahDoor

/-- A kernel behind so many ticks. -/
def kT (p : PD) : Nat → KD
  | 0 => newK p
  | t + 1 => (tickK p p.spans (kT p t)).1
theorem kT_time (p : PD) : ∀ t, (kT p t).time = t
  | 0 => rfl
  | t + 1 => by
    show (tickK p p.spans (kT p t)).1.time = _
    rw [tick_time, kT_time p t]
    omega
theorem kT_ok {p : PD} (hp : plchk p = 0) : ∀ t, KOk p (kT p t)
  | 0 => new_ok hp
  | t + 1 => tick_ok hp (kT_ok hp t)
/-- Whose turn it is. -/
def whoK (p : PD) (k : KD) : Int := hold p.spans (k.time % p.ticks)
theorem tick_told (p : PD) (k : KD) : (tickK p p.spans k).2.1 = k.time ∧ (tickK p p.spans k).2.2.1 = whoK p k := by
  unfold tickK whoK
  simp only
  split
  · exact ⟨rfl, rfl⟩
  · exact ⟨rfl, rfl⟩
/-- No room but the one whose turn it is. -/
theorem tick_room {p : PD} {k : KD} {r : Nat} (hr : (r : Int) ≠ whoK p k) : (tickK p p.spans k).1.rooms[r]? = k.rooms[r]? := by
  unfold whoK at hr
  unfold tickK
  simp only
  split
  · rfl
  · rename_i h
    show (k.rooms.set _ _)[r]? = _
    rw [List.getElem?_set_ne (by omega)]
/-- No wire but those of it. -/
theorem tick_line {p : PD} {k : KD} (hp : plchk p = 0) (hk : KOk p k) {i : Nat} {x : W4} (hx : p.wires[i]? = some x) (h1 : x.1 ≠ whoK p k) (h2 : x.2.1 ≠ whoK p k) : (tickK p p.spans k).1.lines[i]? = k.lines[i]? := by
  have hw := (who_room hp (k.time % p.ticks)).2
  unfold whoK at h1 h2
  unfold tickK
  simp only
  split
  · rfl
  · rename_i h
    obtain ⟨rn, hrn⟩ : ∃ n : Nat, hold p.spans (k.time % p.ticks) = n := ⟨(hold p.spans (k.time % p.ticks)).toNat, by omega⟩
    rw [hrn] at h1 h2 hw ⊢
    have hlt : rn < p.code.length := by simpa using hw (by omega)
    obtain ⟨c, s, o, ht⟩ := turn_of hp hk hlt
    obtain ⟨e1, e2, e3⟩ := ht.at
    rw [Int.toNat_natCast]
    unfold turnK
    simp only [e1, e2, e3]
    have hop := op_wire hp ht.hc (List.mem_of_getElem? ht.ho)
    have hT : (linesT k o s)[i]? = k.lines[i]? := by
      unfold linesT
      split
      · rename_i htk
        have h9 : o.1 = 9 := by
          unfold takesB at htk
          simp only [Bool.and_eq_true, decide_eq_true_eq] at htk
          exact htk.2
        obtain ⟨y, hy, hy2⟩ := hop.2 h9
        refine List.getElem?_set_ne (fun e => ?_)
        rw [e, hx] at hy
        obtain rfl := Option.some.inj hy
        exact h2 hy2
      · rfl
    rw [← hT]
    unfold linesS
    split
    · rename_i hs
      have h8 := ((sendK_range ht).2.2 hs).1
      obtain ⟨y, hy, hy2⟩ := hop.1 h8
      refine List.getElem?_set_ne (fun e => ?_)
      rw [e, hx] at hy
      obtain rfl := Option.some.inj hy
      exact h1 hy2
    · rfl
end Go.Proofs.YtkoomlnndnjllahDoor
namespace Go.Proofs.YtkoomlnndnjllahDoor
open Go.RowKit

/-- A state as a value. -/
def stA (s : St) : Value := .agg #[.int .i64 s.p, .int .i64 (s.c 0), .int .i64 (s.c 1), .int .i64 (s.c 2), .int .i64 (s.c 3), .int .i64 (s.c 4), .int .i64 (s.c 5), .bool s.f]
/-- An event as a value. -/
def evA (e : Int × Int × Int × Int) : Value := .agg #[.int .i64 e.1, .int .i64 e.2.1, .int .i64 e.2.2.1, .int .i64 e.2.2.2]
def errB (b : Bool) : Int := if b = true then 1 else 0
/-- A room of a kernel, and whether there is one. -/
def noRoom (k : KD) (r : Int) : Bool := decide (r < 0) || decide ((k.rooms.length : Int) ≤ r)
def roomK (k : KD) (r : Int) : St := if noRoom k r = true then stNew else k.rooms.getD r.toNat stNew
/-- A line of a kernel, and whether there is one. -/
def noLine (k : KD) (i : Int) : Bool := decide (i < 0) || decide ((k.lines.length : Int) ≤ i)
def lineK (k : KD) (i : Int) : LnD := if noLine k i = true then LnD.none else k.lines.getD i.toNat LnD.none
end Go.Proofs.YtkoomlnndnjllahDoor
namespace Go.Proofs.YtkoomlnndnjllahDoor

theorem set_same {α : Type} {l : List α} {i : Nat} {x : α} (h : l[i]? = some x) : l.set i x = l := by
  apply List.ext_getElem?
  intro j
  rw [List.getElem?_set]
  by_cases hij : i = j
  · subst hij
    rw [if_pos rfl, if_pos (List.getElem?_eq_some_iff.1 h).1, h]
  · simp [hij]
/-- It had failed ahead. -/
theorem turn_failed {p : PD} {k : KD} {r : Nat} {c : List O3} {s : St} {o : O3} (h : Turn p k r c s o) (hf : s.f = true) : turnK p k r = (⟨k.rooms, k.lines, k.time + 1⟩, s.p, 5) := by
  obtain ⟨e1, e2, e3⟩ := h.at
  have ht : takesB o s = false := by unfold takesB; rw [hf]; rfl
  have hs : sendF o s = -1 := by unfold sendF; rw [hf, if_pos rfl]
  unfold turnK
  simp only [e1, e2, e3]
  unfold linesS cameK linesT gotK
  rw [ht, hs]
  simp only [Bool.false_eq_true, if_false, show ¬ ((0 : Int) ≤ -1) by omega, false_and]
  unfold stepF whatF
  rw [hf, if_pos rfl, if_pos rfl, set_same h.hs]
/-- It takes, and there is something. -/
theorem turn_takes {p : PD} {k : KD} {r : Nat} {c : List O3} {s : St} {o : O3} (h : Turn p k r c s o) (hf : s.f = false) (h9 : o.1 = 9) {l : LnD} (hl : k.lines[o.2.2.toNat]? = some l) (hh : (headL l).2 = true) :
    turnK p k r = (⟨k.rooms.set r (stepF o s c.length (headL l).1 true), k.lines.set o.2.2.toNat (restL l), k.time + 1⟩, s.p, 2) := by
  obtain ⟨e1, e2, e3⟩ := h.at
  have ht : takesB o s = true := by unfold takesB; rw [hf, h9]; rfl
  have hs : sendF o s = -1 := by unfold sendF sentF; rw [hf, if_neg (by decide), if_neg (by omega)]
  have hla : lineAt k o = l := by simp [lineAt, List.getD, hl]
  unfold turnK
  simp only [e1, e2, e3]
  unfold linesS cameK linesT gotK
  rw [ht, hs, hla]
  simp only [if_true, show ¬ ((0 : Int) ≤ -1) by omega, if_false, false_and, hh]
  unfold whatF
  rw [hf, if_neg (by decide), if_neg (by omega), if_pos h9, if_pos rfl]
/-- It takes, and there is nothing. -/
theorem turn_waits {p : PD} {k : KD} {r : Nat} {c : List O3} {s : St} {o : O3} (h : Turn p k r c s o) (hf : s.f = false) (h9 : o.1 = 9) {l : LnD} (hl : k.lines[o.2.2.toNat]? = some l) (hh : (headL l).2 = false) :
    turnK p k r = (⟨k.rooms.set r (stepF o s c.length 0 false), k.lines, k.time + 1⟩, s.p, 3) := by
  obtain ⟨e1, e2, e3⟩ := h.at
  have ht : takesB o s = true := by unfold takesB; rw [hf, h9]; rfl
  have hs : sendF o s = -1 := by unfold sendF sentF; rw [hf, if_neg (by decide), if_neg (by omega)]
  have hla : lineAt k o = l := by simp [lineAt, List.getD, hl]
  have hx : l.xs = [] := by
    unfold headL at hh
    split at hh
    · assumption
    · cases hh
  have hhd : headL l = (0, false) := by unfold headL; rw [hx]
  have hre : restL l = l := by unfold restL; rw [hx]
  unfold turnK
  simp only [e1, e2, e3]
  unfold linesS cameK linesT gotK
  rw [ht, hs, hla, hre, hhd]
  simp only [if_true, show ¬ ((0 : Int) ≤ -1) by omega, if_false, false_and]
  rw [set_same hl]
  unfold whatF
  rw [hf, if_neg (by decide), if_neg (by omega), if_pos h9, if_neg (by decide)]
/-- It sends. -/
theorem turn_sends {p : PD} {k : KD} {r : Nat} {c : List O3} {s : St} {o : O3} (h : Turn p k r c s o) (hf : s.f = false) (h8 : o.1 = 8) {l : LnD} (hl : k.lines[o.2.2.toNat]? = some l) :
    turnK p k r = (⟨k.rooms.set r (stepF o s c.length 0 false), k.lines.set o.2.2.toNat (putL l (s.c o.2.1.toNat)), k.time + 1⟩, s.p, if fitL l = true then 1 else 3) := by
  obtain ⟨e1, e2, e3⟩ := h.at
  have ht : takesB o s = false := by unfold takesB; rw [hf, h8]; rfl
  have hs : sendF o s = s.c o.2.1.toNat := by unfold sendF sentF; rw [hf, if_neg (by decide), if_pos h8]
  have h0 : 0 ≤ s.c o.2.1.toNat := by
    have hr := (ok3_range h.ok).2.2
    have hb := (bA_le o.1).2
    have := (stOk_iff.1 h.st).2.2 o.2.1.toNat (by omega)
    exact this.1
  unfold turnK
  simp only [e1, e2, e3]
  unfold linesS cameK linesT gotK
  rw [ht, hs]
  simp only [Bool.false_eq_true, if_false, if_pos h0, List.getD, hl, Option.getD_some]
  have hw : whatF o s false = 1 := by unfold whatF; rw [hf, if_neg (by decide), if_pos h8]
  rw [hw]
  cases hfl : fitL l with
  | true => rw [if_neg (fun e => by cases e.2), if_pos rfl]
  | false => rw [if_pos ⟨h0, rfl⟩, if_neg (by decide)]
/-- It does none of these. -/
theorem turn_else {p : PD} {k : KD} {r : Nat} {c : List O3} {s : St} {o : O3} (h : Turn p k r c s o) (hf : s.f = false) (h8 : o.1 ≠ 8) (h9 : o.1 ≠ 9) :
    turnK p k r = (⟨k.rooms.set r (stepF o s c.length 0 false), k.lines, k.time + 1⟩, s.p, if o.1 = 11 then 4 else 0) := by
  obtain ⟨e1, e2, e3⟩ := h.at
  have ht : takesB o s = false := by unfold takesB; rw [hf]; simp [h9]
  have hs : sendF o s = -1 := by unfold sendF sentF; rw [hf, if_neg (by decide), if_neg h8]
  unfold turnK
  simp only [e1, e2, e3]
  unfold linesS cameK linesT gotK
  rw [ht, hs]
  simp only [Bool.false_eq_true, if_false, show ¬ ((0 : Int) ≤ -1) by omega, false_and]
  unfold whatF
  rw [hf, if_neg (by decide), if_neg h8, if_neg h9]
end Go.Proofs.YtkoomlnndnjllahDoor
namespace Go.Proofs.YtkoomlnndnjllahDoor
open Go.RowKit

/-- What lies in threes can be read cell by cell. -/
theorem trio_at {w : World} {b : Nat} : ∀ (l : List (Int × Int × Int)) (off : Nat), (∀ (i : Nat) o, l[i]? = some o → w.cell? ⟨b, off + i * 3, none⟩ = some (.int .i64 o.1) ∧ w.cell? ⟨b, off + i * 3 + 1, none⟩ = some (.int .i64 o.2.1) ∧ w.cell? ⟨b, off + i * 3 + 2, none⟩ = some (.int .i64 o.2.2)) → ∀ j u, (spCells l)[j]? = some u → w.cell? ((⟨b, off, none⟩ : Addr).add j) = some u
  | [], off, _, j, u, hj => by simp [spCells] at hj
  | x :: l, off, h, j, u, hj => by
    have e : spCells (x :: l) = [.int .i64 x.1, .int .i64 x.2.1, .int .i64 x.2.2] ++ spCells l := by simp [spCells]
    rw [e] at hj
    obtain ⟨h0, h1, h2⟩ := h 0 x (by simp)
    rw [Addr.add_lit]
    match j, hj with
    | 0, hj => simp at hj; subst hj; simpa using h0
    | 1, hj => simp at hj; subst hj; simpa using h1
    | 2, hj => simp at hj; subst hj; simpa using h2
    | j + 3, hj =>
      rw [List.getElem?_append_right (by simp)] at hj
      have ih := trio_at l (off + 3) (fun i o ho => by
        have := h (i + 1) o (by simpa using ho)
        rw [show off + (i + 1) * 3 = off + 3 + i * 3 by omega] at this
        exact this) j u (by simpa using hj)
      rw [Addr.add_lit] at ih
      rw [show off + (j + 3) = off + 3 + j by omega]
      exact ih
theorem spCells_len : ∀ l : List (Int × Int × Int), (spCells l).length = l.length * 3
  | [] => rfl
  | x :: l => by
    have e : spCells (x :: l) = [.int .i64 x.1, .int .i64 x.2.1, .int .i64 x.2.2] ++ spCells l := by simp [spCells]
    rw [e, List.length_append, spCells_len l, List.length_cons]
    simp
    omega
theorem spCells_one (l : List (Int × Int × Int)) : ∀ u ∈ spCells l, u.oneCell' = true := by
  intro u hu
  simp only [spCells, List.mem_flatMap] at hu
  obtain ⟨o, _, hu⟩ := hu
  simp at hu
  rcases hu with rfl | rfl | rfl <;> rfl
theorem ginfoOp : (Tryd.prog.info? 76).map (fun i => (i.zero, i.size, i.bytes)) = some (some (.agg #[.int .i64 0, .int .i64 0, .int .i64 0]), 3, 24) := by kernel_rfl
set_option maxRecDepth 100000 in
set_option maxHeartbeats 4000000 in
theorem clone_op_nil (cap : Nat) (w : World) : Calls Tryd.prog 33 #[.slice none 0 cap] w fun e w' => e = .returned (.slice none 0 0) ∧ w' = w := by
  have q : ∀ (w : World) (a : Option Addr) (n c n' c' : Nat), (binOp .eql 73 (.slice a n c) (.slice none n' c')).run Tryd.prog w = .ok (.bool a.isNone) w := fun w a n c n' c' => Lib.run_eql_slice_nil w _ _ a n c n' c' Tryd.underlying73
  go_enter Tryd.func33, Tryd.ntmps33
  go_wp2
  go_ret
  exact ⟨rfl, rfl⟩
set_option maxRecDepth 100000 in
set_option maxHeartbeats 4000000 in
theorem clone_op_some (ad : Addr) (cap : Nat) (l : List (Int × Int × Int)) (w : World) (hx : l.length ≤ 1000) (hc : ∀ j u, (spCells l)[j]? = some u → w.cell? (ad.add j) = some u) :
    Calls Tryd.prog 33 #[.slice (some ad) l.length cap] w fun e w' => ∃ v', e = .returned v' ∧ w'.ownsRow w.heap.size 76 3 v' l.length (spCells l) ∧ Below w.heap.size w w' := by
  obtain ⟨ii, hi, hz0, hz1, hz2⟩ := info_parts ginfoOp
  have q : ∀ (w : World) (a : Option Addr) (n c n' c' : Nat), (binOp .eql 73 (.slice a n c) (.slice none n' c')).run Tryd.prog w = .ok (.bool a.isNone) w := fun w a n c n' c' => Lib.run_eql_slice_nil w _ _ a n c n' c' Tryd.underlying73
  have HC : Hid (∀ j u, (spCells l)[j]? = some u → w.cell? (ad.add j) = some u) := hc
  clear hc
  go_enter Tryd.func33, Tryd.ntmps33
  go_wp2_with (at_builtin; refine wpList_append_at _ rfl _ _ 73 rfl w.heap.size 76 ii _ 3 24 Tryd.underlying73 hi hz0 hz1 hz2 rfl (by decide) _ _ _ rfl (World.ownsRow_made w #[] 0 (Nat.le_refl _) (Nat.zero_le _) rfl) ad l.length cap (spCells l) rfl ?c0A ?c1A ?c2A ?c3A ?c4A ?c5A ?_)
  case c0A => exact spCells_len l
  case c1A =>
    intro j u hj
    have h := HC.out j u hj
    exact (((Below.refl _ w).alloc (Nat.le_refl _) _).cell (p := ad.add j) (World.block_lt_of_cell? w _ h)).trans h
  case c2A => exact spCells_one l
  case c3A => unfold maxLen; omega
  case c4A => omega
  case c5A => simp
  intro v1 w2 own1 hg1 hat1
  clear q
  go_wp2
  go_ret
  refine ⟨v1, rfl, by simpa using own1, ((Below.refl _ w).alloc (Nat.le_refl _) _).grown hg1 (by simp) (by intro k hk; simp [Value.ownBlock] at hk; omega)⟩
theorem clone_ops (l : List O3) (v : Value) (w : World) (h : Ops w v l) (hx : l.length ≤ 1000) :
    Calls Tryd.prog 33 #[v] w fun e w' => ∃ v', e = .returned v' ∧ w'.ownsRow w.heap.size 76 3 v' l.length (spCells l) ∧ Below w.heap.size w w' := by
  rcases h with ⟨rfl, ao, cap, rfl⟩ | ⟨b, off, cap, rfl, hlt, hc⟩
  · cases ao with
    | none =>
      refine (clone_op_nil cap w).mono ?_
      rintro e w' ⟨rfl, rfl⟩
      exact ⟨_, rfl, World.ownsRow_nil _ _ _ _, Below.refl _ _⟩
    | some ad => exact clone_op_some ad cap [] w (Nat.zero_le _) (fun j u hj => by simp [spCells] at hj)
  · exact clone_op_some ⟨b, off, none⟩ cap l w hx (trio_at l off hc)
/-- Ops in a row of their own can be read. -/
theorem gops_own {w : World} {base : Nat} {v : Value} {l : List O3} (h : w.ownsRow base 76 3 v l.length (spCells l)) : Ops w v l := by
  have hl := h.lt
  have hcs := @World.ownsRow.cells _ _ _ _ _ _ _ h
  rcases h.2 with ⟨rfl, h0⟩ | ⟨g, cap, cur, rfl, _, _, hcap, _⟩
  · exact Or.inl ⟨List.eq_nil_of_length_eq_zero h0, _, _, rfl⟩
  · have hat : ∀ j u, (spCells l)[j]? = some u → w.cell? ⟨g, j, none⟩ = some u := fun j u hu => by
      have := hcs rfl j u hu
      rwa [Addr.add_lit, Nat.zero_add] at this
    refine Or.inr ⟨g, 0, cap, rfl, (hl g rfl).2, fun i o ho => ?_⟩
    obtain ⟨h1, h2, h3⟩ := spCells_at l i o ho
    exact ⟨by simpa using hat _ _ h1, by simpa using hat _ _ h2, by simpa using hat _ _ h3⟩
end Go.Proofs.YtkoomlnndnjllahDoor
namespace Go.Proofs.YtkoomlnndnjllahDoor
open Go.RowKit

set_option maxRecDepth 100000 in
set_option maxHeartbeats 4000000 in
theorem clone_sp_nil (cap : Nat) (w : World) : Calls Tryd.prog 32 #[.slice none 0 cap] w fun e w' => e = .returned (.slice none 0 0) ∧ w' = w := by
  have q : ∀ (w : World) (a : Option Addr) (n c n' c' : Nat), (binOp .eql 24 (.slice a n c) (.slice none n' c')).run Tryd.prog w = .ok (.bool a.isNone) w := fun w a n c n' c' => Lib.run_eql_slice_nil w _ _ a n c n' c' Tryd.underlying24
  go_enter Tryd.func32, Tryd.ntmps32
  go_wp2
  go_ret
  exact ⟨rfl, rfl⟩
set_option maxRecDepth 100000 in
set_option maxHeartbeats 4000000 in
theorem clone_sp_some (ad : Addr) (cap : Nat) (l : List (Int × Int × Int)) (w : World) (hx : l.length ≤ 1000) (hc : ∀ j u, (spCells l)[j]? = some u → w.cell? (ad.add j) = some u) :
    Calls Tryd.prog 32 #[.slice (some ad) l.length cap] w fun e w' => ∃ v', e = .returned v' ∧ w'.ownsRow w.heap.size 23 3 v' l.length (spCells l) ∧ Below w.heap.size w w' := by
  obtain ⟨ii, hi, hz0, hz1, hz2⟩ := info_parts infoSp
  have q : ∀ (w : World) (a : Option Addr) (n c n' c' : Nat), (binOp .eql 24 (.slice a n c) (.slice none n' c')).run Tryd.prog w = .ok (.bool a.isNone) w := fun w a n c n' c' => Lib.run_eql_slice_nil w _ _ a n c n' c' Tryd.underlying24
  have HC : Hid (∀ j u, (spCells l)[j]? = some u → w.cell? (ad.add j) = some u) := hc
  clear hc
  go_enter Tryd.func32, Tryd.ntmps32
  go_wp2_with (at_builtin; refine wpList_append_at _ rfl _ _ 24 rfl w.heap.size 23 ii _ 3 24 Tryd.underlying24 hi hz0 hz1 hz2 rfl (by decide) _ _ _ rfl (World.ownsRow_made w #[] 0 (Nat.le_refl _) (Nat.zero_le _) rfl) ad l.length cap (spCells l) rfl ?c0A ?c1A ?c2A ?c3A ?c4A ?c5A ?_)
  case c0A => exact spCells_len l
  case c1A =>
    intro j u hj
    have h := HC.out j u hj
    exact (((Below.refl _ w).alloc (Nat.le_refl _) _).cell (p := ad.add j) (World.block_lt_of_cell? w _ h)).trans h
  case c2A => exact spCells_one l
  case c3A => unfold maxLen; omega
  case c4A => omega
  case c5A => simp
  intro v1 w2 own1 hg1 hat1
  clear q
  go_wp2
  go_ret
  refine ⟨v1, rfl, by simpa using own1, ((Below.refl _ w).alloc (Nat.le_refl _) _).grown hg1 (by simp) (by intro k hk; simp [Value.ownBlock] at hk; omega)⟩
theorem clone_sps (l : List S3) (v : Value) (w : World) (h : Sps w v l) (hx : l.length ≤ 1000) :
    Calls Tryd.prog 32 #[v] w fun e w' => ∃ v', e = .returned v' ∧ w'.ownsRow w.heap.size 23 3 v' l.length (spCells l) ∧ Below w.heap.size w w' := by
  rcases h with ⟨rfl, ao, cap, rfl⟩ | ⟨b, off, cap, rfl, hcap, hlt, hc⟩
  · cases ao with
    | none =>
      refine (clone_sp_nil cap w).mono ?_
      rintro e w' ⟨rfl, rfl⟩
      exact ⟨_, rfl, World.ownsRow_nil _ _ _ _, Below.refl _ _⟩
    | some ad => exact clone_sp_some ad cap [] w (Nat.zero_le _) (fun j u hj => by simp [spCells] at hj)
  · exact clone_sp_some ⟨b, off, none⟩ cap l w hx (trio_at l off hc)
end Go.Proofs.YtkoomlnndnjllahDoor
namespace Go.Proofs.YtkoomlnndnjllahDoor

/-- An event: tick, room, at, what. -/
def evOut (e : W4) : Bool := decide (e.1 < 0) || decide (1000000 < e.1) || (decide (e.2.1 < -1) || decide (4 < e.2.1)) || (decide (e.2.2.1 < 0) || decide (19 < e.2.2.1)) || (decide (e.2.2.2 < 0) || decide (5 < e.2.2.2))
/-- What is wrong with it. -/
def evBad (e : W4) : Int := if evOut e = true then 1 else if e.2.1 = -1 ∧ (e.2.2.1 ≠ 0 ∨ e.2.2.2 ≠ 0) then 3 else 0
def evScan : List W4 → Int
  | [] => 0
  | e :: l => if evBad e = 0 then evScan l else evBad e
/-- What is wrong with events. -/
def evchk (l : List W4) : Int := if 2000 < l.length then 4 else evScan l
theorem evScan_zero : ∀ {l : List W4}, evScan l = 0 ↔ ∀ e ∈ l, evBad e = 0
  | [] => by simp [evScan]
  | e :: l => by
    unfold evScan
    by_cases h : evBad e = 0
    · rw [if_pos h, evScan_zero]
      simp [h]
    · rw [if_neg h]
      simp [h]
theorem evchk_zero {l : List W4} : evchk l = 0 ↔ l.length ≤ 2000 ∧ ∀ e ∈ l, evBad e = 0 := by
  unfold evchk
  by_cases h : 2000 < l.length
  · rw [if_pos h]
    constructor
    · intro e; cases e
    · intro ⟨h1, _⟩; omega
  · rw [if_neg h, evScan_zero]
    constructor
    · intro e; exact ⟨by omega, e⟩
    · intro ⟨_, e⟩; exact e
theorem evBad_zero {e : W4} (h : evBad e = 0) : (0 ≤ e.1 ∧ e.1 ≤ 1000000) ∧ (-1 ≤ e.2.1 ∧ e.2.1 ≤ 4) ∧ (0 ≤ e.2.2.1 ∧ e.2.2.1 ≤ 19) ∧ (0 ≤ e.2.2.2 ∧ e.2.2.2 ≤ 5) ∧ (e.2.1 = -1 → e.2.2.1 = 0 ∧ e.2.2.2 = 0) := by
  unfold evBad at h
  split at h
  · cases h
  · rename_i h1
    split at h
    · cases h
    · rename_i h2
      unfold evOut at h1
      simp only [Bool.or_eq_true, decide_eq_true_eq, not_or] at h1
      refine ⟨by omega, by omega, by omega, by omega, fun e1 => ?_⟩
      by_cases h3 : e.2.2.1 ≠ 0 ∨ e.2.2.2 ≠ 0
      · exact absurd ⟨e1, h3⟩ h2
      · omega
theorem evBad_of {e : W4} (h1 : 0 ≤ e.1 ∧ e.1 ≤ 1000000) (h2 : -1 ≤ e.2.1 ∧ e.2.1 ≤ 4) (h3 : 0 ≤ e.2.2.1 ∧ e.2.2.1 ≤ 19) (h4 : 0 ≤ e.2.2.2 ∧ e.2.2.2 ≤ 5) (h5 : e.2.1 = -1 → e.2.2.1 = 0 ∧ e.2.2.2 = 0) : evBad e = 0 := by
  unfold evBad
  rw [if_neg, if_neg]
  · intro ⟨a, b⟩
    have := h5 a
    omega
  · unfold evOut
    simp only [Bool.or_eq_true, decide_eq_true_eq]
    omega
/-- Those of a room. -/
def ofR (l : List W4) (r : Int) : List W4 := l.filter fun e => decide (e.2.1 = r)
def ofE (l : List W4) (r : Int) : Int := if evchk l = 0 then (if r < -1 ∨ 4 < r then 1 else 0) else evchk l
def ofV (l : List W4) (r : Int) : List W4 := if ofE l r = 0 then ofR l r else []
/-- How many of each kind. -/
def cntW (l : List W4) (k : Int) : Nat := (l.filter fun e => decide (e.2.2.2 = k)).length
def countsL (l : List W4) : List Int := [(cntW l 0 : Int), (cntW l 1 : Int), (cntW l 2 : Int), (cntW l 3 : Int), (cntW l 4 : Int), (cntW l 5 : Int)]
def countsV (l : List W4) : List Int := if evchk l = 0 then countsL l else []
/-- Those of all rooms, and of none, are all. -/
theorem of_all : ∀ {l : List W4}, (∀ e ∈ l, evBad e = 0) → (ofR l (-1)).length + (ofR l 0).length + (ofR l 1).length + (ofR l 2).length + (ofR l 3).length + (ofR l 4).length = l.length
  | [], _ => rfl
  | e :: l, h => by
    have ih := of_all (l := l) (fun x hx => h x (List.mem_cons_of_mem _ hx))
    obtain ⟨_, hr, _⟩ := evBad_zero (h e (List.mem_cons_self ..))
    unfold ofR at ih ⊢
    have hc : e.2.1 = -1 ∨ e.2.1 = 0 ∨ e.2.1 = 1 ∨ e.2.1 = 2 ∨ e.2.1 = 3 ∨ e.2.1 = 4 := by omega
    rcases hc with h | h | h | h | h | h <;> (simp [h]; omega)
theorem counts_all : ∀ {l : List W4}, (∀ e ∈ l, evBad e = 0) → cntW l 0 + cntW l 1 + cntW l 2 + cntW l 3 + cntW l 4 + cntW l 5 = l.length
  | [], _ => rfl
  | e :: l, h => by
    have ih := counts_all (l := l) (fun x hx => h x (List.mem_cons_of_mem _ hx))
    obtain ⟨_, _, _, hr, _⟩ := evBad_zero (h e (List.mem_cons_self ..))
    unfold cntW at ih ⊢
    have hc : e.2.2.2 = 0 ∨ e.2.2.2 = 1 ∨ e.2.2.2 = 2 ∨ e.2.2.2 = 3 ∨ e.2.2.2 = 4 ∨ e.2.2.2 = 5 := by omega
    rcases hc with h | h | h | h | h | h <;> (simp [h]; omega)
/-- What is told of a tick. -/
def evK (p : PD) (k : KD) : W4 := (tickK p p.spans k).2
theorem what_range (o : O3) (s : St) (b : Bool) : 0 ≤ whatF o s b ∧ whatF o s b ≤ 5 := by
  unfold whatF
  repeat' split
  all_goals omega
theorem evK_ok {p : PD} {k : KD} (hp : plchk p = 0) (hk : KOk p k) (ht : k.time ≤ 1000000) : evBad (evK p k) = 0 := by
  have hw := who_room hp (k.time % p.ticks)
  have hcl := (plchk_zero hp).1
  have h0 := hk.time
  unfold evK tickK
  simp only
  split
  · rename_i hneg
    exact evBad_of ⟨h0, ht⟩ (by show -1 ≤ hold _ _ ∧ hold _ _ ≤ 4; omega) (by show (0 : Int) ≤ 0 ∧ (0 : Int) ≤ 19; decide) (by show (0 : Int) ≤ 0 ∧ (0 : Int) ≤ 5; decide) (fun _ => ⟨rfl, rfl⟩)
  · rename_i hpos
    have hr := hw.2 (by omega)
    obtain ⟨c, s, o, htn⟩ := turn_of hp hk hr
    obtain ⟨a1, a2, a3⟩ := htn.at
    have hst := stOk_iff.1 htn.st
    have hc20 := (chk_zero htn.ck).2.1
    refine evBad_of ⟨h0, ht⟩ (by show -1 ≤ hold _ _ ∧ hold _ _ ≤ 4; omega) ?_ ?_ (fun e => by have : hold p.spans (k.time % p.ticks) = -1 := e; omega)
    · show 0 ≤ (turnK p k _).2.1 ∧ (turnK p k _).2.1 ≤ 19
      unfold turnK
      simp only
      rw [a2]
      have := hst.1
      have := hst.2.1
      omega
    · show 0 ≤ (turnK p k _).2.2 ∧ (turnK p k _).2.2 ≤ 5
      unfold turnK cameK
      simp only
      split
      · omega
      · exact what_range _ _ _
theorem evK_room (p : PD) (k : KD) : (evK p k).2.1 = whoK p k := (tick_told p k).2
/-- Those of a run. -/
def runL (p : PD) (n : Nat) : List W4 := (List.range n).map fun t => evK p (kT p t)
theorem runL_len (p : PD) (n : Nat) : (runL p n).length = n := by simp [runL]
theorem runL_succ (p : PD) (n : Nat) : runL p (n + 1) = runL p n ++ [evK p (kT p n)] := by simp [runL, List.range_succ]
theorem runL_take (p : PD) {n m : Nat} (h : n ≤ m) : (runL p m).take n = runL p n := by
  unfold runL
  rw [← List.map_take, List.take_range, Nat.min_eq_left h]
theorem runL_ok {p : PD} (hp : plchk p = 0) {n : Nat} (hn : n ≤ 2000) : evchk (runL p n) = 0 := by
  rw [evchk_zero]
  refine ⟨by rw [runL_len]; exact hn, fun e he => ?_⟩
  unfold runL at he
  obtain ⟨t, ht, rfl⟩ := List.mem_map.1 he
  have := List.mem_range.1 ht
  exact evK_ok hp (kT_ok hp t) (by rw [kT_time]; omega)
/-- As many events as turns. -/
theorem runL_of {p : PD} (r : Int) : ∀ n, (ofR (runL p n) r).length = cnR (hasT p.ticks p.spans r) 0 n
  | 0 => rfl
  | n + 1 => by
    have ih := runL_of (p := p) r n
    rw [runL_succ]
    unfold ofR at ih ⊢
    rw [List.filter_append, List.length_append, ih]
    show _ = cnR (hasT p.ticks p.spans r) 0 n + (if hasT p.ticks p.spans r (0 + n) = true then 1 else 0)
    congr 1
    rw [Nat.zero_add]
    have e1 : decide ((evK p (kT p n)).2.1 = r) = hasT p.ticks p.spans r n := by
      rw [evK_room]
      unfold whoK hasT
      rw [kT_time]
    cases hh : hasT p.ticks p.spans r n with
    | true => rw [hh] at e1; simp only [decide_eq_true_eq] at e1; simp [e1]
    | false => rw [hh] at e1; simp only [decide_eq_false_iff_not] at e1; simp [e1]
def trE (p : PD) (n : Int) : Int := if plchk p = 0 then (if n < 0 ∨ 2000 < n then 1 else 0) else plchk p
def trV (p : PD) (n : Int) : List W4 := if trE p n = 0 then runL p n.toNat else []
theorem trE_zero {p : PD} {n : Int} (h : trE p n = 0) : plchk p = 0 ∧ 0 ≤ n ∧ n ≤ 2000 := by
  unfold trE at h
  split at h
  · rename_i h0
    split at h
    · cases h
    · exact ⟨h0, by omega, by omega⟩
  · rename_i h0
    exact absurd h h0
end Go.Proofs.YtkoomlnndnjllahDoor
namespace Go.Proofs.YtkoomlnndnjllahDoor
open Go.RowKit

def TrcOf (G : World → Prop) : Prop := ∀ (l : List W4) (v : Value) (r : Int) (W : World), G W → Wrs W v l → Calls Tryd.prog 8 #[v, .int .i64 r] W fun e w' => ∃ u, e = .returned (.tuple #[u, wErr (ofE l r)]) ∧ Wrs w' u (ofV l r) ∧ Below W.heap.size W w'
end Go.Proofs.YtkoomlnndnjllahDoor
namespace Go.Proofs.YtkoomlnndnjllahDoor
open Go.RowKit

def TrcRun (G : World → Prop) : Prop := ∀ (p : PD) (vc vs vw : Value) (n : Int) (W : World), G W → Pln W vc vs vw p → Calls Tryd.prog 9 #[plV vc p.ticks vs vw, .int .i64 n] W fun e w' => ∃ u, e = .returned (.tuple #[u, wErr (trE p n)]) ∧ Wrs w' u (trV p n) ∧ Below W.heap.size W w'
end Go.Proofs.YtkoomlnndnjllahDoor
namespace Go.Proofs.YtkoomlnndnjllahDoor
open Go.RowKit

def wiB (n a b : Int) : Bool := decide (a ≤ n) && decide (n ≤ b)
set_option maxRecDepth 100000 in
set_option maxHeartbeats 1000000 in
theorem within_any (n a b : Int) (w : World) : Calls Tryd.prog 20 #[.int .i64 n, .int .i64 a, .int .i64 b] w fun e w' => e = .returned (.bool (wiB n a b)) ∧ w' = w := by
  by_cases h : a ≤ n
  · by_cases h2 : n ≤ b
    · have HB : Hid (wiB n a b = true) := by show _ = _; simp [wiB, h, h2]
      go_enter Tryd.func20, Tryd.ntmps20
      go_wp2
      go_ret
      exact ⟨wretB HB.out.symm, rfl⟩
    · have HB : Hid (wiB n a b = false) := by show _ = _; simp [wiB, h2]
      have h2' : decide (n ≤ b) = false := by simpa using h2
      go_enter Tryd.func20, Tryd.ntmps20
      go_wp2
      go_ret
      exact ⟨wretB HB.out.symm, rfl⟩
  · have HB : Hid (wiB n a b = false) := by show _ = _; simp [wiB, h]
    have h' : decide (a ≤ n) = false := by simpa using h
    go_enter Tryd.func20, Tryd.ntmps20
    go_wp2
    go_ret
    exact ⟨wretB HB.out.symm, rfl⟩
theorem within_of {n a b : Int} {c : Bool} (h : wiB n a b = c) (w : World) : Calls Tryd.prog 20 #[.int .i64 n, .int .i64 a, .int .i64 b] w fun e w' => e = .returned (.bool c) ∧ w' = w := h ▸ within_any n a b w
set_option maxRecDepth 100000 in
set_option maxHeartbeats 1000000 in
theorem trroom_of {n : Int} {c : Bool} (h : wiB n (-1) 4 = c) (w : World) : Calls Tryd.prog 18 #[.int .i64 n] w fun e w' => e = .returned (.bool c) ∧ w' = w := by
  have q := within_of h w
  clear h
  go_enter Tryd.func18, Tryd.ntmps18
  go_wp2_with (go_at_call 20; refine q.mono ?_; rintro e w1 ⟨rfl, hw1⟩; subst hw1)
  go_ret
  exact ⟨rfl, rfl⟩
theorem wi_out (a b c d : Int) : evOut (a, b, c, d) = !(wiB a 0 1000000 && wiB b (-1) 4 && wiB c 0 19 && wiB d 0 5) := by
  unfold evOut wiB
  rw [Bool.eq_iff_iff]
  simp only [Bool.or_eq_true, decide_eq_true_eq, Bool.not_eq_true', Bool.and_eq_false_iff, decide_eq_false_iff_not]
  omega
end Go.Proofs.YtkoomlnndnjllahDoor
namespace Go.Proofs.YtkoomlnndnjllahDoor
open Go.RowKit

/-- A state's eight cells, written. -/
def setSt (w : World) (b o : Nat) (s : St) : World := (((((((w.setCell ⟨b, o, none⟩ (.int .i64 s.p)).setCell ⟨b, o + 1, none⟩ (.int .i64 (s.c 0))).setCell ⟨b, o + 2, none⟩ (.int .i64 (s.c 1))).setCell ⟨b, o + 3, none⟩ (.int .i64 (s.c 2))).setCell ⟨b, o + 4, none⟩ (.int .i64 (s.c 3))).setCell ⟨b, o + 5, none⟩ (.int .i64 (s.c 4))).setCell ⟨b, o + 6, none⟩ (.int .i64 (s.c 5))).setCell ⟨b, o + 7, none⟩ (.bool s.f)
theorem setSt_touch {M : List Nat} (w : World) {b : Nat} (hb : b ∈ M) (o : Nat) (s : St) : KTouch M w (setSt w b o s) :=
  (((((((KTouch.set w hb _ _).trans (KTouch.set _ hb _ _)).trans (KTouch.set _ hb _ _)).trans (KTouch.set _ hb _ _)).trans (KTouch.set _ hb _ _)).trans (KTouch.set _ hb _ _)).trans (KTouch.set _ hb _ _)).trans (KTouch.set _ hb _ _)
theorem setSt_frozen (w : World) (b o : Nat) (s : St) (a : Addr) : (setSt w b o s).frozen? a = w.frozen? a := by
  unfold setSt
  simp only [World.frozen?_setCell]
theorem setCell_far {w : World} {b i j : Nat} {v : Value} (h : i ≠ j) : (w.setCell ⟨b, j, none⟩ v).cell? ⟨b, i, none⟩ = w.cell? ⟨b, i, none⟩ :=
  World.cell?_setCell_other _ _ _ _ (fun e => by injection e with e1 e2; exact h e2.symm)
theorem setSt_off {w : World} {b o : Nat} {s : St} {i : Nat} (h : i < o ∨ o + 8 ≤ i) : (setSt w b o s).cell? ⟨b, i, none⟩ = w.cell? ⟨b, i, none⟩ := by
  unfold setSt
  rw [setCell_far (by omega), setCell_far (by omega), setCell_far (by omega), setCell_far (by omega), setCell_far (by omega), setCell_far (by omega), setCell_far (by omega), setCell_far (by omega)]
theorem setSt_at {w : World} {b o : Nat} {s s' : St} (h : StC w b o s) : StC (setSt w b o s') b o s' := by
  obtain ⟨h0, h1, h2, h3, h4, h5, h6, h7⟩ := h
  unfold setSt
  refine ⟨?_, ?_, ?_, ?_, ?_, ?_, ?_, ?_⟩ <;> simp [go_sem, h0, h1, h2, h3, h4, h5, h6, h7]
theorem StC.off {w w' : World} {b o : Nat} {s : St} (h : StC w b o s) (hc : ∀ i, o ≤ i → i < o + 8 → w'.cell? ⟨b, i, none⟩ = w.cell? ⟨b, i, none⟩) : StC w' b o s :=
  ⟨(hc _ (by omega) (by omega)).trans h.p, (hc _ (by omega) (by omega)).trans h.c0, (hc _ (by omega) (by omega)).trans h.c1, (hc _ (by omega) (by omega)).trans h.c2, (hc _ (by omega) (by omega)).trans h.c3, (hc _ (by omega) (by omega)).trans h.c4, (hc _ (by omega) (by omega)).trans h.c5, (hc _ (by omega) (by omega)).trans h.f⟩
theorem StC.poke {w : World} {b o : Nat} {s : St} (h : StC w b o s) {c : Nat} (hc : c ≤ 5) (n : Int) : StC (w.setCell ⟨b, o + 1 + c, none⟩ (.int .i64 n)) b o (pokeS s c n) := by
  obtain ⟨h0, h1, h2, h3, h4, h5, h6, h7⟩ := h
  match c, hc with
  | 0, _ => refine ⟨?_, ?_, ?_, ?_, ?_, ?_, ?_, ?_⟩ <;> simp [go_sem, pokeS, h0, h1, h2, h3, h4, h5, h6, h7]
  | 1, _ => refine ⟨?_, ?_, ?_, ?_, ?_, ?_, ?_, ?_⟩ <;> simp [go_sem, pokeS, h0, h1, h2, h3, h4, h5, h6, h7]
  | 2, _ => refine ⟨?_, ?_, ?_, ?_, ?_, ?_, ?_, ?_⟩ <;> simp [go_sem, pokeS, h0, h1, h2, h3, h4, h5, h6, h7]
  | 3, _ => refine ⟨?_, ?_, ?_, ?_, ?_, ?_, ?_, ?_⟩ <;> simp [go_sem, pokeS, h0, h1, h2, h3, h4, h5, h6, h7]
  | 4, _ => refine ⟨?_, ?_, ?_, ?_, ?_, ?_, ?_, ?_⟩ <;> simp [go_sem, pokeS, h0, h1, h2, h3, h4, h5, h6, h7]
  | 5, _ => refine ⟨?_, ?_, ?_, ?_, ?_, ?_, ?_, ?_⟩ <;> simp [go_sem, pokeS, h0, h1, h2, h3, h4, h5, h6, h7]
/-- An event in its box. -/
def EvB (W : World) (b : Nat) (t r a q : Int) : Prop := W.heap[b]? = some (.cells #[.int .i64 t, .int .i64 r, .int .i64 a, .int .i64 q] 52 (0, 0))
theorem EvB.lt {W : World} {b : Nat} {t r a q : Int} (h : EvB W b t r a q) : b < W.heap.size := (Array.getElem?_eq_some_iff.1 h).1
theorem EvB.cs {W : World} {b : Nat} {t r a q : Int} (h : EvB W b t r a q) : W.cell? ⟨b, 0, none⟩ = some (.int .i64 t) ∧ W.cell? ⟨b, 1, none⟩ = some (.int .i64 r) ∧ W.cell? ⟨b, 2, none⟩ = some (.int .i64 a) ∧ W.cell? ⟨b, 3, none⟩ = some (.int .i64 q) := by
  have e : W.heap[b]? = _ := h
  simp [World.cell?, e]
theorem EvB.fs {W : World} {b : Nat} {t r a q : Int} (h : EvB W b t r a q) : W.frozen? ⟨b, 0, none⟩ = false ∧ W.frozen? ⟨b, 1, none⟩ = false ∧ W.frozen? ⟨b, 2, none⟩ = false ∧ W.frozen? ⟨b, 3, none⟩ = false := by
  have e : W.heap[b]? = _ := h
  simp [World.frozen?, e]
theorem EvB.set {W : World} {b : Nat} {t r a q : Int} (h : EvB W b t r a q) (t' r' a' q' : Int) : EvB ((((W.setCell ⟨b, 0, none⟩ (.int .i64 t')).setCell ⟨b, 1, none⟩ (.int .i64 r')).setCell ⟨b, 2, none⟩ (.int .i64 a')).setCell ⟨b, 3, none⟩ (.int .i64 q')) b t' r' a' q' := by
  have e : W.heap[b]? = _ := h
  unfold EvB
  simp [World.setCell, Array.getElem?_modify, e]
theorem EvB.at {W : World} {b : Nat} {t r a q : Int} (h : EvB W b t r a q) (a' : Int) : EvB (W.setCell ⟨b, 2, none⟩ (.int .i64 a')) b t r a' q := by
  have e : W.heap[b]? = _ := h
  unfold EvB
  simp [World.setCell, Array.getElem?_modify, e]
theorem EvB.what {W : World} {b : Nat} {t r a q : Int} (h : EvB W b t r a q) (q' : Int) : EvB (W.setCell ⟨b, 3, none⟩ (.int .i64 q')) b t r a q' := by
  have e : W.heap[b]? = _ := h
  unfold EvB
  simp [World.setCell, Array.getElem?_modify, e]
/-- A state in its box. -/
def StB (W : World) (b : Nat) (s : St) : Prop := W.heap[b]? = some (.cells #[.int .i64 s.p, .int .i64 (s.c 0), .int .i64 (s.c 1), .int .i64 (s.c 2), .int .i64 (s.c 3), .int .i64 (s.c 4), .int .i64 (s.c 5), .bool s.f] 79 (0, 0))
theorem StB.cs {W : World} {b : Nat} {s : St} (h : StB W b s) : StC W b 0 s := by
  have e : W.heap[b]? = _ := h
  refine ⟨?_, ?_, ?_, ?_, ?_, ?_, ?_, ?_⟩ <;> simp [World.cell?, e]
/-- Both boxes of a tick, the result's and its own. -/
structure Ev (w W : World) (e2 : Nat) (t r a q : Int) : Prop where
  res : EvB W w.heap.size 0 0 0 0
  own : EvB W e2 t r a q
  ne : e2 ≠ w.heap.size
  ge : w.heap.size ≤ e2
/-- The box laid ahead of the call. -/
theorem ev_box {w w1 : World} (b1 : Below (((w.alloc (.cells #[.int .i64 0, .int .i64 0, .int .i64 0, .int .i64 0] 52)).alloc (.cells #[.int .i64 0, .int .i64 0, .int .i64 0, .int .i64 0] 52)).drew).heap.size (((w.alloc (.cells #[.int .i64 0, .int .i64 0, .int .i64 0, .int .i64 0] 52)).alloc (.cells #[.int .i64 0, .int .i64 0, .int .i64 0, .int .i64 0] 52)).drew) w1) :
    (w1.cell? ⟨w.heap.size + 1, 0, none⟩ = some (.int .i64 0) ∧ w1.cell? ⟨w.heap.size + 1, 1, none⟩ = some (.int .i64 0) ∧ w1.cell? ⟨w.heap.size + 1, 2, none⟩ = some (.int .i64 0) ∧ w1.cell? ⟨w.heap.size + 1, 3, none⟩ = some (.int .i64 0)) ∧ w1.frozen? ⟨w.heap.size + 1, 0, none⟩ = false ∧ w1.frozen? ⟨w.heap.size + 1, 1, none⟩ = false ∧ w1.frozen? ⟨w.heap.size + 1, 2, none⟩ = false ∧ w1.frozen? ⟨w.heap.size + 1, 3, none⟩ = false := by
  have hc := fun o => b1.cell (p := ⟨w.heap.size + 1, o, none⟩) (by simp)
  have hf := fun o => b1.frozen (p := ⟨w.heap.size + 1, o, none⟩) (by simp)
  exact ⟨⟨(hc 0).trans (by simp), (hc 1).trans (by simp), (hc 2).trans (by simp), (hc 3).trans (by simp)⟩, (hf 0).trans (by simp), (hf 1).trans (by simp), (hf 2).trans (by simp), (hf 3).trans (by simp)⟩
/-- The cells of a state are there, and may be written. -/
theorem there_st {W : World} {b o : Nat} {s : St} (h : StC W b o s) (hf : ∀ i, W.frozen? ⟨b, i, none⟩ = false) (nq : Nat) : (W.drewN nq).there b o 8 := by
  obtain ⟨s0, s1, s2, s3, s4, s5, s6, s7⟩ := h
  intro j hj
  have hb : Below W.heap.size W (W.drewN nq) := below_dN (Below.refl _ _) nq
  have hlt : b < W.heap.size := World.block_lt_of_cell? W _ s0
  rw [hb.cell (p := ⟨b, o + j, none⟩) hlt, hb.frozen (p := ⟨b, o + j, none⟩) hlt]
  refine ⟨?_, hf _⟩
  match j, hj with
  | 0, _ => rw [Nat.add_zero, s0]; rfl
  | 1, _ => rw [s1]; rfl
  | 2, _ => rw [s2]; rfl
  | 3, _ => rw [s3]; rfl
  | 4, _ => rw [s4]; rfl
  | 5, _ => rw [s5]; rfl
  | 6, _ => rw [s6]; rfl
  | 7, _ => rw [s7]; rfl
end Go.Proofs.YtkoomlnndnjllahDoor
namespace Go.Proofs.YtkoomlnndnjllahDoor
open Go.RowKit

/-- What package kernel does, in every world of a kind: K w0 w p vc vs vw k kb F: made in the world w0, of the plan p that lay there, a kernel lies at block kb; it is k, and all that it has lies in the blocks F. -/
structure KerN (G : World → Prop) where
  K : World → World → PD → Value → Value → Value → KD → Nat → List Nat → Prop
  all : ∀ w w', G w → Below w.heap.size w w' → G w'
  since : ∀ {w0 w p vc vs vw k kb F}, K w0 w p vc vs vw k kb F → Below w0.heap.size w0 w
  ge : ∀ {w0 w p vc vs vw k kb F}, K w0 w p vc vs vw k kb F → ∀ g ∈ F, w0.heap.size ≤ g ∧ g < w.heap.size
  lower : ∀ {w1 w0 w p vc vs vw k kb F}, Below w1.heap.size w1 w0 → K w0 w p vc vs vw k kb F → K w1 w p vc vs vw k kb F
  frame : ∀ {w0 w w' p vc vs vw k kb F M}, K w0 w p vc vs vw k kb F → KTouch M w w' → (∀ m ∈ M, m ∉ F ∧ w0.heap.size ≤ m) → K w0 w' p vc vs vw k kb F
  new : ∀ (p : PD) (vc vs vw : Value) (W : World), G W → Pln W vc vs vw p → plchk p = 0 → Calls Tryd.prog 19 #[plV vc p.ticks vs vw] W fun e w' => ∃ kb F, e = .returned (.tuple #[.pointer (some ⟨kb, 0, none⟩), .nilIface]) ∧ K W w' p vc vs vw (newK p) kb F
  no : ∀ (p : PD) (vc vs vw : Value) (W : World), G W → Pln W vc vs vw p → plchk p ≠ 0 → Calls Tryd.prog 19 #[plV vc p.ticks vs vw] W fun e w' => ∃ x, e = .returned (.tuple #[.pointer x, wErr (plchk p)]) ∧ Below W.heap.size W w'
  tick : ∀ {w0 W p vc vs vw k kb F}, G w0 → K w0 W p vc vs vw k kb F → plchk p = 0 → KOk p k → k.time < 100000000 → Calls Tryd.prog 21 #[.pointer (some ⟨kb, 0, none⟩)] W fun e w' => e = .returned (evA (tickK p p.spans k).2) ∧ ∃ F', K w0 w' p vc vs vw (tickK p p.spans k).1 kb F' ∧ KTouch F W w' ∧ ∀ g ∈ F', g ∈ F ∨ W.heap.size ≤ g
end Go.Proofs.YtkoomlnndnjllahDoor
namespace Go.Proofs.YtkoomlnndnjllahDoor
open Go.ChangeShapes Go.WideShapes Go.ChangeAt Go.WideElems Go.RowKit Go.Deep

theorem pk_spot {W : World} {a : Addr} {v : Value} (h : W.cell? a = some v) : a = ⟨a.block, a.off, none⟩ ∧ a.block < W.heap.size := by
  obtain ⟨b, o, s⟩ := a
  unfold World.cell? at h
  simp only at h
  cases hb : W.heap[b]? with
  | none => rw [hb] at h; cases h
  | some x =>
    rw [hb] at h
    refine ⟨?_, (Array.getElem?_eq_some_iff.1 hb).1⟩
    cases x <;> simp at h
    cases s with
    | none => rfl
    | some s => simp at h
theorem pk_lt {α : Type} [Inhabited α] {p : Nat → α → Prop} {n : Nat} (h : ∀ i, i < n → ∃ x, p i x) : ∃ f : Nat → α, ∀ i, i < n → p i (f i) := by
  refine ⟨fun i => if hi : i < n then (h i hi).choose else default, fun i hi => ?_⟩
  simp only [hi, dif_pos]
  exact (h i hi).choose_spec
/-- A slice read as data, at the level of its cell. -/
theorem pk_slice {α : Type} [Inhabited α] {H : Type} {enc : TypeId × Value → H} {P : Program} {W : World} {base : Nat} {sp : Nat → Bool} {held : Bool} {fuel : Nat} {cs : List Value} {x : DataW H × List MemPlace} {t e : TypeId} {k : Nat}
    (ht : P.underlying t = some (.slice e)) (hk : P.cellsOf e = k) (hk0 : 0 < k) (R : List Value → α → Prop)
    (hel : ∀ (n : Nat) (cs : List Value) (x : DataW H × List MemPlace), DataW.trod enc P W base sp held n e cs = some x → ∃ o, R cs o)
    (h : DataW.trod enc P W base sp held fuel t cs = some x) :
    ∃ a len cap, cs = [.slice a len cap] ∧ (len = 0 ∨ ∃ b off, a = some ⟨b, off, none⟩ ∧ len ≤ cap ∧ b < W.heap.size ∧ ∃ l : List α, l.length = len ∧ ∀ i o, l[i]? = some o → ∃ us, us.length = k ∧ R us o ∧ ∀ j, j < k → W.cell? ⟨b, off + i * k + j, none⟩ = us[j]?) := by
  rcases open_slice ht h with ⟨rfl, _⟩ | ⟨a, len, cap, m, n, D, Pl, rfl, _, hl, _, hm, _, he⟩
  · exact ⟨none, 0, 0, rfl, Or.inl rfl⟩
  · refine ⟨some a, len, cap, rfl, ?_⟩
    have hlm : len ≤ m := by rw [hm]; split <;> omega
    by_cases h0 : len = 0
    · exact Or.inl h0
    · rw [hk] at he
      obtain ⟨F, hF⟩ := pk_lt (α := α × List Value) (p := fun i o => o.2.length = k ∧ R o.2 o.1 ∧ ∀ j, j < k → W.cell? ((a.add (i * k)).add j) = o.2[j]?) (n := len) (fun i hi => by
        obtain ⟨us, h1, h2⟩ := he i (by omega)
        obtain ⟨o, ho⟩ := hel _ _ _ h2
        obtain ⟨_, h3, h4⟩ := World.cells?_some h1
        exact ⟨(o, us), h3, ho, h4⟩)
      obtain ⟨l0, _, c0⟩ := hF 0 (by omega)
      have hz := c0 0 hk0
      rw [show (a.add (0 * k)).add 0 = a from by simp [Addr.add], List.getElem?_eq_getElem (by omega)] at hz
      obtain ⟨ha, hlt⟩ := pk_spot hz
      refine Or.inr ⟨a.block, a.off, by rw [← ha], hl, hlt, (List.range len).map (fun i => (F i).1), by simp, fun i o ho => ?_⟩
      have hi : i < len := by
        have := (List.getElem?_eq_some_iff.1 ho).1
        simpa using this
      have hoi : (F i).1 = o := by simpa [hi] using ho
      obtain ⟨h1, h2, h3⟩ := hF i hi
      refine ⟨(F i).2, h1, hoi ▸ h2, fun j hj => ?_⟩
      have := h3 j hj
      rw [ha] at this
      simp only [Addr.add_lit] at this
      exact this
theorem pcInt : Tryd.prog.cellsOf 3 = 1 := by kernel_rfl
theorem pcOp : Tryd.prog.cellsOf 76 = 3 := by kernel_rfl
theorem pcSpan : Tryd.prog.cellsOf 23 = 3 := by kernel_rfl
theorem pcWire : Tryd.prog.cellsOf 82 = 4 := by kernel_rfl
theorem pcOps : Tryd.prog.cellsOf 73 = 1 := by kernel_rfl
section
variable {H : Type} {enc : TypeId × Value → H} {W : World} {base : Nat} {sp : Nat → Bool} {held : Bool}
set_option maxRecDepth 100000 in
theorem pk_op (n : Nat) (cs : List Value) (x : DataW H × List MemPlace) (h : DataW.trod enc Tryd.prog W base sp held n 76 cs = some x) : ∃ o : O3, cs = [.int .i64 o.1, .int .i64 o.2.1, .int .i64 o.2.2] := by
  obtain ⟨y0, y1, y2, n, _, hl, h0, h1, h2⟩ := trod_struct3 Tryd.underlying76 h
  rw [pcOp] at hl
  match cs, hl with
  | [c0, c1, c2], _ =>
    simp only [pcInt] at h0 h1 h2
    simp at h0 h1 h2
    obtain ⟨n, e0, _, _⟩ := DataW.trod_int Tryd.underlying3 h0
    obtain ⟨a, e1, _, _⟩ := DataW.trod_int Tryd.underlying3 h1
    obtain ⟨b, e2, _, _⟩ := DataW.trod_int Tryd.underlying3 h2
    simp only [List.cons.injEq, and_true] at e0 e1 e2
    subst e0; subst e1; subst e2
    exact ⟨(n, a, b), rfl⟩
set_option maxRecDepth 100000 in
theorem pk_span (n : Nat) (cs : List Value) (x : DataW H × List MemPlace) (h : DataW.trod enc Tryd.prog W base sp held n 23 cs = some x) : ∃ o : S3, cs = [.int .i64 o.1, .int .i64 o.2.1, .int .i64 o.2.2] := by
  obtain ⟨y0, y1, y2, n, _, hl, h0, h1, h2⟩ := trod_struct3 Tryd.underlying23 h
  rw [pcSpan] at hl
  match cs, hl with
  | [c0, c1, c2], _ =>
    simp only [pcInt] at h0 h1 h2
    simp at h0 h1 h2
    obtain ⟨n, e0, _, _⟩ := DataW.trod_int Tryd.underlying3 h0
    obtain ⟨a, e1, _, _⟩ := DataW.trod_int Tryd.underlying3 h1
    obtain ⟨b, e2, _, _⟩ := DataW.trod_int Tryd.underlying3 h2
    simp only [List.cons.injEq, and_true] at e0 e1 e2
    subst e0; subst e1; subst e2
    exact ⟨(n, a, b), rfl⟩
set_option maxRecDepth 100000 in
theorem pk_wire (n : Nat) (cs : List Value) (x : DataW H × List MemPlace) (h : DataW.trod enc Tryd.prog W base sp held n 82 cs = some x) : ∃ o : W4, cs = [.int .i64 o.1, .int .i64 o.2.1, .int .i64 o.2.2.1, .int .i64 o.2.2.2] := by
  obtain ⟨y0, y1, y2, y3, n, _, hl, h0, h1, h2, h3⟩ := Joins.trod_struct4 Tryd.underlying82 h
  rw [pcWire] at hl
  match cs, hl with
  | [c0, c1, c2, c3], _ =>
    simp only [pcInt] at h0 h1 h2 h3
    simp at h0 h1 h2 h3
    obtain ⟨n, e0, _, _⟩ := DataW.trod_int Tryd.underlying3 h0
    obtain ⟨a, e1, _, _⟩ := DataW.trod_int Tryd.underlying3 h1
    obtain ⟨b, e2, _, _⟩ := DataW.trod_int Tryd.underlying3 h2
    obtain ⟨c, e3, _, _⟩ := DataW.trod_int Tryd.underlying3 h3
    simp only [List.cons.injEq, and_true] at e0 e1 e2 e3
    subst e0; subst e1; subst e2; subst e3
    exact ⟨(n, a, b, c), rfl⟩
theorem pk_ops (n : Nat) (cs : List Value) (x : DataW H × List MemPlace) (h : DataW.trod enc Tryd.prog W base sp held n 73 cs = some x) : ∃ l : List O3, ∃ u, cs = [u] ∧ Ops W u l := by
  obtain ⟨a, len, cap, rfl, hr⟩ := pk_slice (α := O3) Tryd.underlying73 pcOp (by decide) (fun cs o => cs = [.int .i64 o.1, .int .i64 o.2.1, .int .i64 o.2.2]) pk_op h
  rcases hr with rfl | ⟨b, off, rfl, _, hlt, l, rfl, hl⟩
  · exact ⟨[], _, rfl, Or.inl ⟨rfl, _, _, rfl⟩⟩
  · refine ⟨l, _, rfl, Or.inr ⟨b, off, cap, rfl, hlt, fun i o ho => ?_⟩⟩
    obtain ⟨us, _, rfl, hc⟩ := hl i o ho
    exact ⟨hc 0 (by omega), hc 1 (by omega), hc 2 (by omega)⟩
theorem pk_sps (n : Nat) (cs : List Value) (x : DataW H × List MemPlace) (h : DataW.trod enc Tryd.prog W base sp held n 24 cs = some x) : ∃ l : List S3, ∃ u, cs = [u] ∧ Sps W u l := by
  obtain ⟨a, len, cap, rfl, hr⟩ := pk_slice (α := S3) Tryd.underlying24 pcSpan (by decide) (fun cs o => cs = [.int .i64 o.1, .int .i64 o.2.1, .int .i64 o.2.2]) pk_span h
  rcases hr with rfl | ⟨b, off, rfl, hcap, hlt, l, rfl, hl⟩
  · exact ⟨[], _, rfl, Or.inl ⟨rfl, _, _, rfl⟩⟩
  · refine ⟨l, _, rfl, Or.inr ⟨b, off, cap, rfl, hcap, hlt, fun i o ho => ?_⟩⟩
    obtain ⟨us, _, rfl, hc⟩ := hl i o ho
    exact ⟨hc 0 (by omega), hc 1 (by omega), hc 2 (by omega)⟩
theorem pk_wrs (n : Nat) (cs : List Value) (x : DataW H × List MemPlace) (h : DataW.trod enc Tryd.prog W base sp held n 32 cs = some x) : ∃ l : List W4, ∃ u, cs = [u] ∧ Wrs W u l := by
  obtain ⟨a, len, cap, rfl, hr⟩ := pk_slice (α := W4) Tryd.underlying32 pcWire (by decide) (fun cs o => cs = [.int .i64 o.1, .int .i64 o.2.1, .int .i64 o.2.2.1, .int .i64 o.2.2.2]) pk_wire h
  rcases hr with rfl | ⟨b, off, rfl, hcap, hlt, l, rfl, hl⟩
  · exact ⟨[], _, rfl, Or.inl ⟨rfl, _, _, rfl⟩⟩
  · refine ⟨l, _, rfl, Or.inr ⟨b, off, cap, rfl, hcap, hlt, fun i o ho => ?_⟩⟩
    obtain ⟨us, _, rfl, hc⟩ := hl i o ho
    exact ⟨hc 0 (by omega), hc 1 (by omega), hc 2 (by omega), hc 3 (by omega)⟩
theorem pk_cds (n : Nat) (cs : List Value) (x : DataW H × List MemPlace) (h : DataW.trod enc Tryd.prog W base sp held n 31 cs = some x) : ∃ l : List (List O3), ∃ u, cs = [u] ∧ Cds W u l := by
  obtain ⟨a, len, cap, rfl, hr⟩ := pk_slice (α := List O3) Tryd.underlying31 pcOps (by decide) (fun cs l => ∃ u, cs = [u] ∧ Ops W u l) pk_ops h
  rcases hr with rfl | ⟨b, off, rfl, hcap, hlt, l, rfl, hl⟩
  · exact ⟨[], _, rfl, Or.inl ⟨rfl, _, _, rfl⟩⟩
  · refine ⟨l, _, rfl, Or.inr ⟨b, off, cap, rfl, hcap, hlt, fun i c hc => ?_⟩⟩
    obtain ⟨us, _, ⟨u, rfl, hu⟩, hc⟩ := hl i c hc
    have := hc 0 (by omega)
    exact ⟨u, by simpa using this, hu⟩
set_option maxRecDepth 100000 in
/-- A plan that came in. -/
theorem open_plan {b0 : Nat} {r : Reach} {v : Value} {d : DataW H} {p : List MemPlace} (hv : Value.okWide Tryd.prog W r b0 34 v)
    (h : DataW.Trod enc Tryd.prog W base sp held 34 v d p) : ∃ (vc vs vw : Value) (p : PD), v = plV vc p.ticks vs vw ∧ Pln W vc vs vw p := by
  obtain ⟨v0, v1, v2, v3, y0, y1, y2, y3, m, rfl, _, _, h0, h1, h2, h3⟩ := Joins.open_agg4 Tryd.underlying34 (by kernel_rfl) (by kernel_rfl) hv h
  obtain ⟨cs, u0, e0, g0⟩ := pk_cds _ _ _ h0
  obtain ⟨n, e1, _, _⟩ := DataW.trod_int Tryd.underlying3 h1
  obtain ⟨ss, u2, e2, g2⟩ := pk_sps _ _ _ h2
  obtain ⟨ws, u3, e3, g3⟩ := pk_wrs _ _ _ h3
  simp only [List.cons.injEq, and_true] at e0 e1 e2 e3
  subst e0; subst e1; subst e2; subst e3
  exact ⟨_, _, _, ⟨cs, n, ss, ws⟩, rfl, g0, g2, g3⟩
end
end Go.Proofs.YtkoomlnndnjllahDoor
namespace Go.Proofs.YtkoomlnndnjllahDoor
open Go.RowKit

/-- A kernel behind t ticks; the row has what was told of them. -/
structure TrK {G : World → Prop} (C : KerN G) (w0 wr : World) (p : PD) (vc vs vw : Value) (kb B t : Nat) (v : Value) (F : List Nat) : Prop where
  K : C.K w0 wr p vc vs vw (kT p t) kb F
  own : wr.ownsRow B 52 4 v t (wrCells (runL p t))
  ap : ∀ g, v.ownBlock = some g → g ∉ F
  B1 : w0.heap.size ≤ B
  B2 : B ≤ wr.heap.size
/-- A tick: what is told, the kernel then; and the row as it was. -/
theorem TrK.tick {G : World → Prop} {C : KerN G} {w0 wr : World} {p : PD} {vc vs vw : Value} {kb B t : Nat} {v : Value} {F : List Nat} (h : TrK C w0 wr p vc vs vw kb B t v F) (hG : G w0) (hp : plchk p = 0) (ht : t < 1000000) :
    Calls Tryd.prog 21 #[.pointer (some ⟨kb, 0, none⟩)] wr fun e w' => e = .returned (.agg #[.int .i64 (evK p (kT p t)).1, .int .i64 (evK p (kT p t)).2.1, .int .i64 (evK p (kT p t)).2.2.1, .int .i64 (evK p (kT p t)).2.2.2]) ∧ ∃ F', C.K w0 w' p vc vs vw (kT p (t + 1)) kb F' ∧ w'.ownsRow B 52 4 v t (wrCells (runL p t)) ∧ (∀ g, v.ownBlock = some g → g ∉ F') ∧ B ≤ w'.heap.size := by
  refine (C.tick hG h.K hp (kT_ok hp t) (by rw [kT_time]; omega)).mono ?_
  rintro e w' ⟨rfl, F', hK', tk', hF'⟩
  refine ⟨rfl, F', hK', own_block h.own (fun g hg => tk'.block g (h.own.lt g hg).2 (h.ap g hg)), fun g hg hm => ?_, Nat.le_trans h.B2 tk'.size⟩
  rcases hF' g hm with h1 | h1
  · exact h.ap g hg h1
  · have := (h.own.lt g hg).2
    omega
/-- The row has one more. -/
theorem trk_more {G : World → Prop} {C : KerN G} {w0 w3 w5 w8 : World} {p : PD} {vc vs vw : Value} {kb B t : Nat} {v v1 : Value} {F : List Nat} (hK : C.K w0 w3 p vc vs vw (kT p (t + 1)) kb F) (own : w3.ownsRow B 52 4 v t (wrCells (runL p t))) (ap : ∀ g, v.ownBlock = some g → g ∉ F) (hB1 : w0.heap.size ≤ B) (hB2 : B ≤ w3.heap.size) (hb5 : Below w3.heap.size w3 w5) (hg : w5.grownBy w8 v.ownBlock)
    (own8 : w8.ownsRow B 52 4 v1 (t + 1) (wrCells (runL p t) ++ [.int .i64 (evK p (kT p t)).1, .int .i64 (evK p (kT p t)).2.1, .int .i64 (evK p (kT p t)).2.2.1, .int .i64 (evK p (kT p t)).2.2.2])) (hnw : ∀ k, v1.ownBlock = some k → v.ownBlock = some k ∨ w5.heap.size ≤ k) : TrK C w0 w8 p vc vs vw kb B (t + 1) v1 F := by
  have tk : KTouch v.ownBlock.toList w3 w8 := ⟨hg.os.trans hb5.os, hg.tape.trans hb5.tape, hg.output.trans hb5.output, Nat.le_trans hb5.size hg.size, fun k hk hm => by
    have := hb5.size
    exact (hg.block k (by omega) (fun e => hm (by rw [← e]; simp))).trans (hb5.block k hk)⟩
  have hs5 := hb5.size
  have hm1 : ∀ m ∈ v.ownBlock.toList, v.ownBlock = some m := fun m hm => by simpa using hm
  refine ⟨C.frame hK tk (fun m hm => ⟨ap m (hm1 m hm), Nat.le_trans hB1 (own.lt m (hm1 m hm)).1⟩), ?_, fun g hg2 hm => ?_, hB1, Nat.le_trans hB2 tk.size⟩
  · rw [runL_succ, wrCells_snoc]
    exact own8
  · rcases hnw g hg2 with h1 | h1
    · exact ap g h1 hm
    · have := (C.ge hK g hm).2
      omega
set_option maxRecDepth 100000 in
set_option maxHeartbeats 8000000 in
theorem trun_wrong {G : World → Prop} (C : KerN G) (p : PD) (vc vs vw : Value) (n : Int) (W : World) (hG : G W) (hP : Pln W vc vs vw p) (hp : plchk p ≠ 0) :
    Calls Tryd.prog 9 #[plV vc p.ticks vs vw, .int .i64 n] W fun e w' => e = .returned (.tuple #[.slice none 0 0, wErr (plchk p)]) ∧ Below W.heap.size W w' := by
  obtain ⟨ca, cc, rfl⟩ := hP.code.form
  obtain ⟨sa, sc, rfl⟩ := hP.spans.form
  obtain ⟨wa, wc', rfl⟩ := hP.wires.form
  have hx0 := Bx.first W (.slice ca p.code.length cc) p.ticks (.slice sa p.spans.length sc) (.slice wa p.wires.length wc')
  have q1 := C.no p _ _ _ _ (C.all _ _ hG hx0.below) (hP.all hx0.below) hp
  rw [wErr_not hp] at q1 ⊢
  unfold plV at q1 ⊢
  have k0 := hx0.c0
  have k1 := hx0.c1
  have k2 := hx0.c2
  have k3 := hx0.c3
  clear hP hG
  generalize plchk p = z at q1 hp ⊢
  go_enter Tryd.func9, Tryd.ntmps9
  go_wp2_with (go_at_call 19; refine q1.mono ?_; rintro e w1 ⟨x, rfl, b1⟩)
  go_ret2
  exact ⟨rfl, (hx0.step b1).below⟩
set_option maxRecDepth 100000 in
set_option maxHeartbeats 8000000 in
theorem trun_n {G : World → Prop} (C : KerN G) (p : PD) (vc vs vw : Value) (n : Int) (W : World) (hG : G W) (hP : Pln W vc vs vw p) (hp : plchk p = 0) (hn : n < 0 ∨ 2000 < n) :
    Calls Tryd.prog 9 #[plV vc p.ticks vs vw, .int .i64 n] W fun e w' => e = .returned (.tuple #[.slice none 0 0, wErr 1]) ∧ Below W.heap.size W w' := by
  obtain ⟨ca, cc, rfl⟩ := hP.code.form
  obtain ⟨sa, sc, rfl⟩ := hP.spans.form
  obtain ⟨wa, wc', rfl⟩ := hP.wires.form
  have hx0 := Bx.first W (.slice ca p.code.length cc) p.ticks (.slice sa p.spans.length sc) (.slice wa p.wires.length wc')
  have q1 : Calls Tryd.prog 19 #[.agg #[.slice ca p.code.length cc, .int .i64 p.ticks, .slice sa p.spans.length sc, .slice wa p.wires.length wc']] (W.alloc (.cells #[.slice ca p.code.length cc, .int .i64 p.ticks, .slice sa p.spans.length sc, .slice wa p.wires.length wc'] 34)) fun e w' => ∃ kb, e = .returned (.tuple #[.pointer (some ⟨kb, 0, none⟩), .nilIface]) ∧ Below W.heap.size W w' := by
    refine (C.new p _ _ _ _ (C.all _ _ hG hx0.below) (hP.all hx0.below) hp).mono ?_
    rintro e w' ⟨kb, F, rfl, hK⟩
    exact ⟨kb, rfl, hx0.below.trans ((C.since hK).mono (by simp))⟩
  unfold plV
  have k0 := hx0.c0
  have k1 := hx0.c1
  have k2 := hx0.c2
  have k3 := hx0.c3
  have hwi : wiB n 0 2000 = false := by
    unfold wiB
    rcases hn with h | h
    · rw [decide_eq_false (show ¬ 0 ≤ n by omega)]; rfl
    · rw [decide_eq_false (show ¬ n ≤ 2000 by omega)]; simp
  have qw := fun w => within_of hwi w
  clear hP hG hp hn hwi
  go_enter Tryd.func9, Tryd.ntmps9
  go_wp2_with (first | (go_at_call 19; refine q1.mono ?_; rintro e w1 ⟨kb, rfl, b1⟩) | (go_at_call 20; refine (qw _).mono ?_; rintro e w2 ⟨rfl, hw2⟩; obtain rfl := hw2.symm))
  go_ret2
  exact ⟨rfl, b1⟩
set_option maxRecDepth 100000 in
set_option maxHeartbeats 8000000 in
theorem trun_ok {G : World → Prop} (C : KerN G) (p : PD) (vc vs vw : Value) (n : Nat) (W : World) (hG : G W) (hP : Pln W vc vs vw p) (hp : plchk p = 0) (hn : n ≤ 2000) :
    Calls Tryd.prog 9 #[plV vc p.ticks vs vw, .int .i64 n] W fun e w' => ∃ v, e = .returned (.tuple #[v, .nilIface]) ∧ Wrs w' v (runL p n) ∧ Below W.heap.size W w' := by
  obtain ⟨jj, hj, hy0, hy1, hy2⟩ := info_parts infoEv
  obtain ⟨ca, cc, rfl⟩ := hP.code.form
  obtain ⟨sa, sc, rfl⟩ := hP.spans.form
  obtain ⟨wa, wc', rfl⟩ := hP.wires.form
  have hx0 := Bx.first W (.slice ca p.code.length cc) p.ticks (.slice sa p.spans.length sc) (.slice wa p.wires.length wc')
  have HG : Hid (G (W.alloc (.cells #[.slice ca p.code.length cc, .int .i64 p.ticks, .slice sa p.spans.length sc, .slice wa p.wires.length wc'] 34))) := C.all _ _ hG hx0.below
  have hA := hx0.below
  have HN : Hid (Calls Tryd.prog 19 #[.agg #[.slice ca p.code.length cc, .int .i64 p.ticks, .slice sa p.spans.length sc, .slice wa p.wires.length wc']] (W.alloc (.cells #[.slice ca p.code.length cc, .int .i64 p.ticks, .slice sa p.spans.length sc, .slice wa p.wires.length wc'] 34)) fun e w' => ∃ kb F, e = .returned (.tuple #[.pointer (some ⟨kb, 0, none⟩), .nilIface]) ∧ C.K (W.alloc (.cells #[.slice ca p.code.length cc, .int .i64 p.ticks, .slice sa p.spans.length sc, .slice wa p.wires.length wc'] 34)) w' p (.slice ca p.code.length cc) (.slice sa p.spans.length sc) (.slice wa p.wires.length wc') (newK p) kb F) := C.new p _ _ _ _ HG.out (hP.all hx0.below) hp
  unfold plV
  have k0 := hx0.c0
  have k1 := hx0.c1
  have k2 := hx0.c2
  have k3 := hx0.c3
  have hwi : wiB (n : Int) 0 2000 = true := by
    unfold wiB
    rw [decide_eq_true (show (0 : Int) ≤ n by omega), decide_eq_true (show (n : Int) ≤ 2000 by omega)]; rfl
  have qw := fun w => within_of hwi w
  have HP : Hid (plchk p = 0) := hp
  clear hP hG hwi hp
  go_enter Tryd.func9, Tryd.ntmps9
  go_wp2_with (first | (go_at_call 19; refine HN.out.mono ?_; rintro e w1 ⟨kb, F, rfl, hK⟩) | (go_at_call 20; refine (qw _).mono ?_; rintro e w2 ⟨rfl, hw2⟩; obtain rfl := hw2.symm))
  clear HN qw
  generalize W.alloc (.cells #[.slice ca p.code.length cc, .int .i64 p.ticks, .slice sa p.spans.length sc, .slice wa p.wires.length wc'] 34) = W0 at *
  go_loopw [8, 22] (fun v i wr => ∃ (t : Nat) (F : List Nat), t ≤ n ∧ i = .int .i64 t ∧ TrK C W0 wr p (.slice ca p.code.length cc) (.slice sa p.spans.length sc) (.slice wa p.wires.length wc') kb w1.heap.size t v F) (fun _ i _ => n - (intOf i).toNat)
  case atStart => exact ⟨0, F, Nat.zero_le _, rfl, hK, World.ownsRow_nil _ _ _ _, fun g hg => (by cases hg), (C.since hK).size, Nat.le_refl _⟩
  case round =>
    clear hK
    obtain ⟨t, F', htn, rfl, hst⟩ := hrel
    obtain ⟨vo, vk, hvf⟩ := own4_form hst.own
    subst hvf
    have hbw := C.since hst.K
    by_cases htl : t < n
    · have hti : (t : Int) < (n : Int) := by omega
      have q3 := hst.tick HG.out HP.out (show t < 1000000 by omega)
      have hB1 := hst.B1
      obtain ⟨⟨x0, x1, x2, x3⟩, hev⟩ : ∃ x, evK p (kT p t) = x := ⟨_, rfl⟩
      have HEV : Hid (evK p (kT p t) = (x0, x1, x2, x3)) := hev
      rw [hev] at q3
      clear hev hst hbw
      go_wp2_with (first
        | (go_at_call 21; refine q3.mono ?_; rintro e w3 ⟨rfl, F3, hK3, own3, ap3, sz3⟩; clear q3)
        | (at_builtin; refine wpList_append_at _ rfl _ _ 35 rfl w1.heap.size 52 jj _ 4 32 Tryd.underlying35 hj hy0 hy1 hy2 rfl (by decide) _ _ _ rfl (own3.alloc _) ⟨w3.heap.size, 0, none⟩ 1 1 [.int .i64 x0, .int .i64 x1, .int .i64 x2, .int .i64 x3] rfl rfl ?c1A ?c2A ?c3A ?c4A ?c5A ?_))
      case c1A => exact wr_new rfl _ _ _ _ _
      case c2A => exact four_one _ _ _ _
      case c3A => unfold maxLen; omega
      case c4A => omega
      case c5A => simp; omega
      intro v1 w8 own8 hg8 hnw8
      have hb4 : Below w3.heap.size w3 (w3.alloc (.cells #[.int .i64 x0, .int .i64 x1, .int .i64 x2, .int .i64 x3] 52)) := (Below.refl _ _).alloc (Nat.le_refl _) _
      have HN8 : Hid (TrK C W0 w8 p (.slice ca p.code.length cc) (.slice sa p.spans.length sc) (.slice wa p.wires.length wc') kb w1.heap.size (t + 1) v1 F3) := by
        refine trk_more hK3 own3 ap3 hB1 sz3 hb4 hg8 ?_ (fun k hk => by simpa using hnw8 k hk)
        rw [HEV.out]
        exact own8
      clear own8 hg8 hnw8 own3 hK3 ap3
      go_wp2
      go_roundw
      case rel => exact ⟨t + 1, F3, by omega, by go_num, HN8.out⟩
      case measure => simp [intOf]; omega
    · obtain rfl : t = n := by omega
      have hti : decide ((t : Int) < (t : Int)) = false := decide_eq_false (by omega)
      have HS : Hid (Wrs wr (.slice vo t vk) (runL p t)) := evs_of_own (by rw [runL_len]; exact hst.own)
      have HB' : Hid (Below W.heap.size W wr) := hA.trans (hbw.mono hA.size)
      clear hst
      go_wp2
      go_ret2
      exact ⟨_, rfl, HS.out, HB'.out⟩
/-- Run does what the laws of traces ask of it. -/
theorem trc_run {G : World → Prop} (C : KerN G) : TrcRun G := fun p vc vs vw n W hG hP => by
  by_cases hp : plchk p = 0
  · by_cases hn : n < 0 ∨ 2000 < n
    · have he : trE p n = 1 := by unfold trE; rw [if_pos hp, if_pos hn]
      unfold trV
      rw [he]
      refine (trun_n C p vc vs vw n W hG hP hp hn).mono ?_
      rintro e w' ⟨rfl, hb⟩
      exact ⟨_, rfl, Or.inl ⟨rfl, _, _, rfl⟩, hb⟩
    · obtain ⟨n, rfl⟩ : ∃ m : Nat, n = m := ⟨n.toNat, by omega⟩
      have he : trE p (n : Int) = 0 := by unfold trE; rw [if_pos hp, if_neg hn]
      unfold trV
      rw [he, if_pos rfl, Int.toNat_natCast]
      exact trun_ok C p vc vs vw n W hG hP hp (by omega)
  · have he : trE p n = plchk p := by unfold trE; rw [if_neg hp]
    unfold trV
    rw [he, if_neg hp]
    refine (trun_wrong C p vc vs vw n W hG hP hp).mono ?_
    rintro e w' ⟨rfl, hb⟩
    exact ⟨_, rfl, Or.inl ⟨rfl, _, _, rfl⟩, hb⟩
end Go.Proofs.YtkoomlnndnjllahDoor
namespace Go.Proofs.YtkoomlnndnjllahDoor
open Go.RowKit

/-- States as cells. -/
def stCells (l : List St) : List Value := l.flatMap fun s => [.int .i64 s.p, .int .i64 (s.c 0), .int .i64 (s.c 1), .int .i64 (s.c 2), .int .i64 (s.c 3), .int .i64 (s.c 4), .int .i64 (s.c 5), .bool s.f]
theorem stCells_snoc (l : List St) (s : St) : stCells (l ++ [s]) = stCells l ++ [.int .i64 s.p, .int .i64 (s.c 0), .int .i64 (s.c 1), .int .i64 (s.c 2), .int .i64 (s.c 3), .int .i64 (s.c 4), .int .i64 (s.c 5), .bool s.f] := by simp [stCells]
theorem stCells_at : ∀ (l : List St) (i : Nat) (s : St), l[i]? = some s → (stCells l)[i * 8]? = some (.int .i64 s.p) ∧ (stCells l)[i * 8 + 1]? = some (.int .i64 (s.c 0)) ∧ (stCells l)[i * 8 + 2]? = some (.int .i64 (s.c 1)) ∧ (stCells l)[i * 8 + 3]? = some (.int .i64 (s.c 2)) ∧ (stCells l)[i * 8 + 4]? = some (.int .i64 (s.c 3)) ∧ (stCells l)[i * 8 + 5]? = some (.int .i64 (s.c 4)) ∧ (stCells l)[i * 8 + 6]? = some (.int .i64 (s.c 5)) ∧ (stCells l)[i * 8 + 7]? = some (.bool s.f)
  | [], i, s, h => by simp at h
  | x :: l, 0, s, h => by simp at h; subst h; simp [stCells]
  | x :: l, i + 1, s, h => by
    have h1 := stCells_at l i s (by simpa using h)
    have e : ∀ j, (stCells (x :: l))[(i + 1) * 8 + j]? = (stCells l)[i * 8 + j]? := fun j => by
      show ([.int .i64 x.p, .int .i64 (x.c 0), .int .i64 (x.c 1), .int .i64 (x.c 2), .int .i64 (x.c 3), .int .i64 (x.c 4), .int .i64 (x.c 5), .bool x.f] ++ stCells l)[(i + 1) * 8 + j]? = _
      rw [List.getElem?_append_right (by simp; omega)]
      congr 1
      simp
      omega
    exact ⟨(e 0).trans h1.1, (e 1).trans h1.2.1, (e 2).trans h1.2.2.1, (e 3).trans h1.2.2.2.1, (e 4).trans h1.2.2.2.2.1, (e 5).trans h1.2.2.2.2.2.1, (e 6).trans h1.2.2.2.2.2.2.1, (e 7).trans h1.2.2.2.2.2.2.2⟩
theorem st_one (s : St) : ∀ u ∈ [Value.int .i64 s.p, .int .i64 (s.c 0), .int .i64 (s.c 1), .int .i64 (s.c 2), .int .i64 (s.c 3), .int .i64 (s.c 4), .int .i64 (s.c 5), .bool s.f], u.oneCell' = true := by
  intro u hu
  simp only [List.mem_cons, List.not_mem_nil, or_false] at hu
  rcases hu with rfl | rfl | rfl | rfl | rfl | rfl | rfl | rfl <;> rfl
theorem st_new {w : World} {k : Nat} (hk : k = w.heap.size) (s : St) (t : TypeId) : ∀ j u, [Value.int .i64 s.p, .int .i64 (s.c 0), .int .i64 (s.c 1), .int .i64 (s.c 2), .int .i64 (s.c 3), .int .i64 (s.c 4), .int .i64 (s.c 5), .bool s.f][j]? = some u → (w.alloc (.cells #[.int .i64 s.p, .int .i64 (s.c 0), .int .i64 (s.c 1), .int .i64 (s.c 2), .int .i64 (s.c 3), .int .i64 (s.c 4), .int .i64 (s.c 5), .bool s.f] t)).cell? ((⟨k, 0, none⟩ : Addr).add j) = some u := by
  intro j u hj
  subst hk
  rw [Addr.add_lit, Nat.zero_add]
  match j, hj with
  | 0, hj => simp at hj; subst hj; simp
  | 1, hj => simp at hj; subst hj; simp
  | 2, hj => simp at hj; subst hj; simp
  | 3, hj => simp at hj; subst hj; simp
  | 4, hj => simp at hj; subst hj; simp
  | 5, hj => simp at hj; subst hj; simp
  | 6, hj => simp at hj; subst hj; simp
  | 7, hj => simp at hj; subst hj; simp
  | j + 8, hj => simp at hj
theorem infoSt : (Tryd.prog.info? 79).map (fun i => (i.zero, i.size, i.bytes)) = some (some (.agg #[.int .i64 0, .int .i64 0, .int .i64 0, .int .i64 0, .int .i64 0, .int .i64 0, .int .i64 0, .bool false]), 8, 64) := by kernel_rfl
end Go.Proofs.YtkoomlnndnjllahDoor
namespace Go.Proofs.YtkoomlnndnjllahDoor
open Go.RowKit

theorem turns_run {p : PD} {n r : Int} (h : trE p n = 0) (hr : 0 ≤ r ∧ r ≤ 4) : ofE (trV p n) r = 0 ∧ ((trV p n).length : Int) = n ∧ turnsE p.ticks p.spans r 0 n = 0 ∧ turnsV p.ticks p.spans r 0 n = ((ofV (trV p n) r).length : Int) := by
  obtain ⟨h1, h2, h3⟩ := trE_zero h
  have e0 : trV p n = runL p n.toNat := by unfold trV; rw [if_pos h]
  have e1 : ofE (trV p n) r = 0 := by
    rw [e0]
    unfold ofE
    rw [if_pos (runL_ok h1 (by omega)), if_neg (by omega)]
  have e2 : turnsE p.ticks p.spans r 0 n = 0 := by
    unfold turnsE
    have : supE p.ticks p.spans r = 0 := by unfold supE; rw [if_pos (plchk_zero h1).2.2.1, if_neg (by omega)]
    rw [if_pos this, if_neg (by omega)]
  refine ⟨e1, by rw [e0, runL_len]; omega, e2, ?_⟩
  unfold turnsV ofV
  rw [if_pos e1, if_pos e2, e0, runL_of]
  rfl
set_option maxRecDepth 100000 in
set_option maxHeartbeats 4000000 in
theorem trturns_of {G : World → Prop} (hall : ∀ w w', G w → Below w.heap.size w w' → G w') (hR : TrcRun G) (hO : TrcOf G) (hT : SupTurns G) (hE : ∀ (e : Int) (W : World), G W → Calls Tryd.prog 7 #[wErr e, .int .i64 e] W fun r w' => r = .returned (.bool true) ∧ Below W.heap.size W w')
    (p : PD) (vc vs vw : Value) (n r : Int) (w : World) (hG : G w) (hP : Pln w vc vs vw p) : Calls Tryd.prog 4 #[plV vc p.ticks vs vw, .int .i64 n, .int .i64 r] w fun e w' => e = .returned (.bool true) ∧ Below w.heap.size w w' := by
  obtain ⟨ca, cc, rfl⟩ := hP.code.form
  obtain ⟨sa, sc, rfl⟩ := hP.spans.form
  obtain ⟨wa, wc', rfl⟩ := hP.wires.form
  have hx0 := Bx.first w (.slice ca p.code.length cc) p.ticks (.slice sa p.spans.length sc) (.slice wa p.wires.length wc')
  have HR : Hid (∀ W, Below w.heap.size w W → Calls Tryd.prog 9 #[.agg #[.slice ca p.code.length cc, .int .i64 p.ticks, .slice sa p.spans.length sc, .slice wa p.wires.length wc'], .int .i64 n] W fun e w' => ∃ u, e = .returned (.tuple #[u, wErr (trE p n)]) ∧ Wrs w' u (trV p n) ∧ Below W.heap.size W w') := fun W hb => hR p _ _ _ n W (hall _ _ hG hb) (hP.all hb)
  have HT : Hid (∀ W, Below w.heap.size w W → Calls Tryd.prog 10 #[.int .i64 p.ticks, .slice sa p.spans.length sc, .int .i64 r, .int .i64 0, .int .i64 n] W fun e w' => e = .returned (.tuple #[.int .i64 (turnsV p.ticks p.spans r 0 n), wErr (turnsE p.ticks p.spans r 0 n)]) ∧ Below W.heap.size W w') := fun W hb => hT _ _ _ r 0 n W (hall _ _ hG hb) (hP.spans.all hb)
  have HO : Hid (∀ l v r W, Below w.heap.size w W → Wrs W v l → Calls Tryd.prog 8 #[v, .int .i64 r] W fun e w' => ∃ u, e = .returned (.tuple #[u, wErr (ofE l r)]) ∧ Wrs w' u (ofV l r) ∧ Below W.heap.size W w') := fun l v r W hb hl => hO l v r W (hall _ _ hG hb) hl
  have HE : Hid (∀ W, Below w.heap.size w W → Calls Tryd.prog 7 #[.iface 46 (.int .i64 1), .int .i64 1] W fun r w' => r = .returned (.bool true) ∧ Below W.heap.size W w') := fun W hb => hE 1 W (hall _ _ hG hb)
  unfold plV
  clear hR hO hT hE hP
  by_cases hout : n < 0 ∨ 200 < n ∨ r < 0 ∨ 4 < r
  · have q1 := HO.out [] (.slice none 0 0) 5 _ hx0.below (Or.inl ⟨rfl, _, _, rfl⟩)
    rw [show ofE [] 5 = 1 by decide +kernel, show wErr 1 = .iface 46 (.int .i64 1) from rfl] at q1
    have hcase : decide (n < 0) = true ∨ (decide (n < 0) = false ∧ (decide (200 < n) = true ∨ (decide (200 < n) = false ∧ (decide (r < 0) = true ∨ (decide (r < 0) = false ∧ decide (4 < r) = true))))) := by
      simp only [decide_eq_true_eq, decide_eq_false_iff_not]
      omega
    clear HR HT HO hout
    rcases hcase with d1 | ⟨d1, d2 | ⟨d2, d3 | ⟨d3, d4⟩⟩⟩ <;>
    · go_enter Tryd.func4, Tryd.ntmps4
      go_wp2_with (first
        | (go_at_call 8; refine q1.mono ?_; rintro e w1 ⟨u, rfl, _, b1⟩; clear q1; have B1 := (hx0.step b1).below; have q2 := HE.out w1 B1; clear HE)
        | (go_at_call 7; refine q2.mono ?_; rintro e w2 ⟨rfl, b2⟩; clear q2; have B2 := B1.trans (b2.mono B1.size)))
      go_ret
      exact ⟨rfl, B2⟩
  · have d1 : decide (n < 0) = false := decide_eq_false (by omega)
    have d2 : decide (200 < n) = false := decide_eq_false (by omega)
    have d3 : decide (r < 0) = false := decide_eq_false (by omega)
    have d4 : decide (4 < r) = false := decide_eq_false (by omega)
    have q1 := HR.out _ hx0.below
    by_cases he : trE p n = 0
    · obtain ⟨g1, g2, g3, g4⟩ := turns_run he (show 0 ≤ r ∧ r ≤ 4 by omega)
      have q1' : Calls Tryd.prog 9 #[.agg #[.slice ca p.code.length cc, .int .i64 p.ticks, .slice sa p.spans.length sc, .slice wa p.wires.length wc'], .int .i64 n] (w.alloc (.cells #[.slice ca p.code.length cc, .int .i64 p.ticks, .slice sa p.spans.length sc, .slice wa p.wires.length wc'] 34)) fun e w' => ∃ ua uc, e = .returned (.tuple #[.slice ua (trV p n).length uc, .nilIface]) ∧ Hid (Wrs w' (.slice ua (trV p n).length uc) (trV p n)) ∧ Below (w.alloc (.cells #[.slice ca p.code.length cc, .int .i64 p.ticks, .slice sa p.spans.length sc, .slice wa p.wires.length wc'] 34)).heap.size (w.alloc (.cells #[.slice ca p.code.length cc, .int .i64 p.ticks, .slice sa p.spans.length sc, .slice wa p.wires.length wc'] 34)) w' := by
        refine q1.mono ?_
        rintro e w' ⟨u, rfl, hu, hb⟩
        obtain ⟨ua, uc, rfl⟩ := hu.form
        exact ⟨ua, uc, by rw [he]; rfl, hu, hb⟩
      have HO2 : Hid (∀ ua uc W, Below w.heap.size w W → Wrs W (.slice ua (trV p n).length uc) (trV p n) → Calls Tryd.prog 8 #[.slice ua (trV p n).length uc, .int .i64 r] W fun e w' => ∃ va wc, e = .returned (.tuple #[.slice va (ofV (trV p n) r).length wc, .nilIface]) ∧ Below W.heap.size W w') := fun ua uc W hb hl => by
        refine (HO.out _ _ r W hb hl).mono ?_
        rintro e w' ⟨u, rfl, hu, hb⟩
        obtain ⟨va, wc, rfl⟩ := hu.form
        exact ⟨va, wc, by rw [g1]; rfl, hb⟩
      rw [g3, g4, show wErr 0 = .nilIface from rfl] at HT
      have e1 : (((trV p n).length : Int) == n) = true := by simpa using g2
      generalize (ofV (trV p n) r).length = m2 at HT HO2
      obtain ⟨m1, hm1⟩ : ∃ x, (trV p n).length = x := ⟨_, rfl⟩
      rw [hm1] at q1' HO2 e1
      clear q1 HR HO HE g1 g2 g3 g4 he hout hm1
      go_enter Tryd.func4, Tryd.ntmps4
      go_wp2_with (first
        | (go_at_call 9; refine q1'.mono ?_; rintro e w1 ⟨ua, uc, rfl, HU, b1⟩; clear q1'; have hx1 := hx0.step b1; have B1 := hx1.below; have q2 := HO2.out ua uc w1 B1 HU.out; clear HO2)
        | (go_at_call 8; refine q2.mono ?_; rintro e w2 ⟨va, vd, rfl, b2⟩; clear q2; have hx2 := hx1.step b2; have B2 := hx2.below; have k1 := hx2.c1; have k2 := hx2.c2; have q3 := HT.out w2 B2; clear HT)
        | (go_at_call 10; refine q3.mono ?_; rintro e w3 ⟨rfl, b3⟩; clear q3; have B3 := B2.trans (b3.mono B2.size)))
      go_ret
      exact ⟨by simp, B3⟩
    · rw [wErr_not he] at q1
      generalize trE p n = et at q1
      generalize trV p n = lv at q1
      clear HR HT HO HE he hout
      go_enter Tryd.func4, Tryd.ntmps4
      go_wp2_with (go_at_call 9; refine q1.mono ?_; rintro e w1 ⟨u, rfl, _, b1⟩; clear q1; have B1 := (hx0.step b1).below)
      go_ret
      exact ⟨rfl, B1⟩
end Go.Proofs.YtkoomlnndnjllahDoor
