/-
  WLine, DLines, WOut, WTake, WClone, WCloneR, GKern, WDel, WTake2, GNew0, FlCheck, WCon: joined into one text.
-/
import Derived.Test.YtajfgmlockjmhaiGreatDoorWCheck
import Derived.Test.YtajfgmlockjmhaiGreatDoorJt3
import Derived.Test.YtajfgmlockjmhaiGreatDoorJt2
import Derived.Deep.RegionLaw
import Derived.Deep.RegionWith
import Derived.Lib.SliceRun
import Derived.Test.YtajfgmlockjmhaiGreatDoorJt1
import Derived.OneCell
namespace Go.Proofs.YtajfgmlockjmhaiGreatDoor
open Go.RowKit

/-- The cells of a line. -/
def LnC (w : World) (b : Nat) (kd dp ls : Int) (v : Value) : Prop := w.cell? ⟨b, 0, none⟩ = some (.int .i64 kd) ∧ w.cell? ⟨b, 1, none⟩ = some (.int .i64 dp) ∧ w.cell? ⟨b, 2, none⟩ = some v ∧ w.cell? ⟨b, 3, none⟩ = some (.int .i64 ls) ∧ w.frozen? ⟨b, 2, none⟩ = false ∧ w.frozen? ⟨b, 3, none⟩ = false
/-- A line that the call owns: its block lies ahead of 'base', its numbers in a row of their own from 'base' on. -/
structure Ln (w : World) (base b : Nat) (kd dp : Int) (xs : List Int) (ls : Int) (v : Value) : Prop where
  c : LnC w b kd dp ls v
  row : w.ownsRow base 3 1 v xs.length (ints xs)
  lt : b < base
  le : base ≤ w.heap.size
/-- What a call on a line changes: its block, the row of its numbers; and it makes memory. -/
structure Touch (w w' : World) (b : Nat) (v v' : Value) : Prop where
  os : w'.os = w.os
  tape : w'.tape = w.tape
  output : w'.output = w.output
  size : w.heap.size ≤ w'.heap.size
  block : ∀ k, k < w.heap.size → k ≠ b → some k ≠ v.ownBlock → w'.heap[k]? = w.heap[k]?
  new : ∀ k, v'.ownBlock = some k → v.ownBlock = some k ∨ w.heap.size ≤ k
theorem Touch.refl (w : World) (b : Nat) (v : Value) : Touch w w b v v := ⟨rfl, rfl, rfl, Nat.le_refl _, fun _ _ _ _ => rfl, fun _ h => Or.inl h⟩
theorem Touch.below {w w' : World} {b B : Nat} {v v' : Value} (h : Touch w w' b v v') (hb : B ≤ b) (hv : ∀ k, v.ownBlock = some k → B ≤ k) (hB : B ≤ w.heap.size) : Below B w w' :=
  ⟨h.os, h.tape, h.output, h.size, fun k hk => h.block k (by omega) (by omega) (fun e => by have := hv k e.symm; omega)⟩
theorem Touch.alloc {w w' : World} {b : Nat} {v v' : Value} (h : Touch w w' b v v') (o : Obj) : Touch w (w'.alloc o) b v v' :=
  ⟨h.os, h.tape, h.output, by have := h.size; simp; omega, fun k hk hb hv => by rw [Below.heap_alloc _ _ _ (Nat.lt_of_lt_of_le hk h.size)]; exact h.block k hk hb hv, h.new⟩
theorem Touch.drew {w w' : World} {b : Nat} {v v' : Value} (h : Touch w w' b v v') : Touch w w'.drew b v v' := ⟨h.os, h.tape, h.output, h.size, h.block, h.new⟩
theorem Touch.set {w w' : World} {b : Nat} {v v' : Value} (h : Touch w w' b v v') (i : Nat) (u : Value) : Touch w (w'.setCell ⟨b, i, none⟩ u) b v v' :=
  ⟨h.os, h.tape, h.output, by have := h.size; simpa using this, fun k hk hb hv => by rw [Below.heap_setCell _ _ _ _ hb]; exact h.block k hk hb hv, h.new⟩
theorem Touch.cut {w w' : World} {b : Nat} {v v' v2 : Value} (h : Touch w w' b v v') (he : v2.ownBlock = v'.ownBlock) : Touch w w' b v v2 := ⟨h.os, h.tape, h.output, h.size, h.block, by rw [he]; exact h.new⟩
theorem Touch.grown {w w' w2 : World} {b : Nat} {v v' v2 : Value} (h : Touch w w' b v v') (hg : w'.grownBy w2 v'.ownBlock) (hn : ∀ k, v2.ownBlock = some k → v'.ownBlock = some k ∨ w'.heap.size ≤ k) : Touch w w2 b v v2 :=
  ⟨hg.os.trans h.os, hg.tape.trans h.tape, hg.output.trans h.output, Nat.le_trans h.size hg.size, fun k hk hb hv => by
    rw [hg.block k (Nat.lt_of_lt_of_le hk h.size) (fun e => by rcases h.new k e.symm with h1 | h1; exact hv h1.symm; omega)]
    exact h.block k hk hb hv,
   fun k hk => by rcases hn k hk with h1 | h1; exact h.new k h1; right; have := h.size; omega⟩
theorem Touch.dN {w w' : World} {b : Nat} {v v' : Value} (h : Touch w w' b v v') : ∀ n, Touch w (w'.drewN n) b v v'
  | 0 => h
  | n + 1 => (Touch.dN h n).drew
theorem LnC.block {w w' : World} {b : Nat} {kd dp ls : Int} {v : Value} (h : LnC w b kd dp ls v) (hb : w'.heap[b]? = w.heap[b]?) : LnC w' b kd dp ls v := by
  have hc := fun o => World.cell?_of_block (w := w) (w' := w') (a := ⟨b, o, none⟩) hb
  have hf := fun o => World.frozen?_of_block (w := w) (w' := w') (a := ⟨b, o, none⟩) hb
  unfold LnC
  simp only [hc, hf]
  exact h
theorem LnC.items {w : World} {b : Nat} {kd dp ls : Int} {v : Value} (h : LnC w b kd dp ls v) (u : Value) : LnC (w.setCell ⟨b, 2, none⟩ u) b kd dp ls u := by
  obtain ⟨c0, c1, c2, c3, f2, f3⟩ := h
  refine ⟨?_, ?_, ?_, ?_, ?_, ?_⟩ <;> simp [go_sem, c0, c1, c2, c3, f2, f3]
theorem LnC.lost {w : World} {b : Nat} {kd dp ls : Int} {v : Value} (h : LnC w b kd dp ls v) (n : Int) : LnC (w.setCell ⟨b, 3, none⟩ (.int .i64 n)) b kd dp n v := by
  obtain ⟨c0, c1, c2, c3, f2, f3⟩ := h
  refine ⟨?_, ?_, ?_, ?_, ?_, ?_⟩ <;> simp [go_sem, c0, c1, c2, c3, f2, f3]
theorem LnC.lt {w : World} {b : Nat} {kd dp ls : Int} {v : Value} (h : LnC w b kd dp ls v) : b < w.heap.size := wlt h.1
theorem LnC.below {w w' : World} {b B : Nat} {kd dp ls : Int} {v : Value} (h : LnC w b kd dp ls v) (hb : Below B w w') (hB : b < B) : LnC w' b kd dp ls v := h.block (hb.block b hB)
theorem Ln.below {w w' : World} {base b : Nat} {kd dp ls : Int} {xs : List Int} {v : Value} (h : Ln w base b kd dp xs ls v) (hb : Below w.heap.size w w') : Ln w' base b kd dp xs ls v :=
  ⟨h.c.below hb (Nat.lt_of_lt_of_le h.lt h.le), own_below h.row hb (Nat.le_refl _), h.lt, Nat.le_trans h.le hb.size⟩
theorem Ln.own {w : World} {base b : Nat} {kd dp ls : Int} {xs : List Int} {v : Value} (h : Ln w base b kd dp xs ls v) {B : Nat} (hB : B ≤ base) : ∀ k, v.ownBlock = some k → B ≤ k := fun k hk => Nat.le_trans hB (h.row.lt k hk).1
end Go.Proofs.YtajfgmlockjmhaiGreatDoor
namespace Go.Proofs.YtajfgmlockjmhaiGreatDoor
open Go.RowKit

theorem KTouch.ln {M : List Nat} {w w' : World} {b : Nat} {v v' : Value} (h : Touch w w' b v v') (hb : b ∈ M) (hv : ∀ g, v.ownBlock = some g → g ∈ M) : KTouch M w w' := ⟨h.os, h.tape, h.output, h.size, fun k hk hm => h.block k hk (fun e => hm (by rw [e]; exact hb)) (fun e => hm (hv k e.symm))⟩
/-- A line as it was where elsewhere was written. -/
theorem Ln.touch {w w' : World} {base b : Nat} {kd dp ls : Int} {xs : List Int} {v : Value} (h : Ln w base b kd dp xs ls v) {M : List Nat} (ht : KTouch M w w') (hb : b ∉ M) (hv : ∀ g, v.ownBlock = some g → g ∉ M) : Ln w' base b kd dp xs ls v := by
  have hlt : b < w.heap.size := Nat.lt_of_lt_of_le h.lt h.le
  have hbk := ht.block b hlt hb
  have hc := fun o => World.cell?_of_block (w := w) (w' := w') (a := ⟨b, o, none⟩) hbk
  have hf := fun o => World.frozen?_of_block (w := w) (w' := w') (a := ⟨b, o, none⟩) hbk
  refine ⟨?_, own_block h.row (fun k hk => ht.block k (h.row.lt k hk).2 (hv k hk)), h.lt, Nat.le_trans h.le ht.size⟩
  have hcc := h.c
  unfold LnC at *
  simp only [hc, hf]
  exact hcc
/-- Lines in a row, by pointers. -/
structure DLs (w : World) (b1 lr : Nat) (lv : Value) (bs : List Nat) (us : List Value) (ls : List LnD) : Prop where
  lv : (ls = [] ∧ lv = .slice none 0 0) ∨ ∃ cap, lv = .slice (some ⟨lr, 0, none⟩) ls.length cap ∧ ls.length ≤ cap
  ptr : ∀ (i : Nat) b, bs[i]? = some b → w.cell? ⟨lr, i, none⟩ = some (.pointer (some ⟨b, 0, none⟩))
  bl : bs.length = ls.length
  ul : us.length = ls.length
  line : ∀ (i : Nat) l b u, ls[i]? = some l → bs[i]? = some b → us[i]? = some u → Ln w b1 b l.w.2.2.1 l.w.2.2.2 l.xs l.ls u
  lt : lr < b1 ∧ ∀ b ∈ bs, b < b1
  le : b1 ≤ w.heap.size
  ap : ∀ b ∈ bs, b ≠ lr
  two : ∀ (i j : Nat) b b', i < j → bs[i]? = some b → bs[j]? = some b' → b ≠ b'
  rows : ∀ (i j : Nat) u u', i ≠ j → us[i]? = some u → us[j]? = some u' → ∀ g, u.ownBlock = some g → u'.ownBlock ≠ some g
/-- Their blocks. -/
def DF (lr : Nat) (bs : List Nat) (us : List Value) : List Nat := lr :: (bs ++ us.filterMap Value.ownBlock)
theorem DLs.row {w : World} {b1 lr : Nat} {lv : Value} {bs : List Nat} {us : List Value} {ls : List LnD} (h : DLs w b1 lr lv bs us ls) : ∀ u ∈ us, ∀ g, u.ownBlock = some g → b1 ≤ g ∧ g < w.heap.size := fun u hu g hg => by
  obtain ⟨i, hi⟩ := List.mem_iff_getElem?.1 hu
  have hlt := (List.getElem?_eq_some_iff.1 hi).1
  have hl : ls[i]? = some (ls[i]'(by rw [← h.ul]; exact hlt)) := List.getElem?_eq_getElem _
  have hb : bs[i]? = some (bs[i]'(by rw [h.bl, ← h.ul]; exact hlt)) := List.getElem?_eq_getElem _
  exact (h.line i _ _ u hl hb hi).row.lt g hg
theorem DLs.flt {w : World} {b1 lr : Nat} {lv : Value} {bs : List Nat} {us : List Value} {ls : List LnD} (h : DLs w b1 lr lv bs us ls) : ∀ g ∈ DF lr bs us, g < w.heap.size := fun g hg => by
  have hle := h.le
  unfold DF at hg
  simp only [List.mem_cons, List.mem_append, List.mem_filterMap] at hg
  rcases hg with h1 | h1 | ⟨u, h1, h2⟩
  · have := h.lt.1; omega
  · have := h.lt.2 g h1; omega
  · exact (h.row u h1 g h2).2
/-- What is written elsewhere leaves them as they are. -/
theorem DLs.frame {w w' : World} {b1 lr : Nat} {lv : Value} {bs : List Nat} {us : List Value} {ls : List LnD} (h : DLs w b1 lr lv bs us ls) {M : List Nat} (ht : KTouch M w w') (hM : ∀ m ∈ M, m ∉ DF lr bs us) : DLs w' b1 lr lv bs us ls := by
  have m4 : ∀ b ∈ bs, b ∈ DF lr bs us := fun b hb => by simp [DF, hb]
  have m5 : ∀ u ∈ us, ∀ g, u.ownBlock = some g → g ∈ DF lr bs us := fun u hu g hg => by
    unfold DF
    simp only [List.mem_cons, List.mem_append, List.mem_filterMap]
    exact Or.inr (Or.inr ⟨u, hu, hg⟩)
  have m3 : lr ∈ DF lr bs us := by simp [DF]
  have hlr := fun o => World.cell?_of_block (w := w) (w' := w') (a := ⟨lr, o, none⟩) (ht.block lr (h.flt lr m3) (fun hm => hM lr hm m3))
  exact ⟨h.lv, fun i b hi => (hlr i).trans (h.ptr i b hi), h.bl, h.ul, fun i l b u h1 h2 h3 => (h.line i l b u h1 h2 h3).touch ht (fun hm => hM b hm (m4 b (List.mem_of_getElem? h2))) (fun g hg hm => hM g hm (m5 u (List.mem_of_getElem? h3) g hg)), h.lt, Nat.le_trans h.le ht.size, h.ap, h.two, h.rows⟩
/-- Where a line lies. -/
theorem DLs.at {w : World} {b1 lr : Nat} {lv : Value} {bs : List Nat} {us : List Value} {ls : List LnD} (h : DLs w b1 lr lv bs us ls) {i : Nat} (hi : i < ls.length) : ∃ b u cap l, ls[i]? = some l ∧ bs[i]? = some b ∧ us[i]? = some u ∧ lv = .slice (some ⟨lr, 0, none⟩) ls.length cap ∧ ls.length ≤ cap ∧ w.cell? ⟨lr, i, none⟩ = some (.pointer (some ⟨b, 0, none⟩)) ∧ Ln w b1 b l.w.2.2.1 l.w.2.2.2 l.xs l.ls u := by
  have hb : bs[i]? = some (bs[i]'(by rw [h.bl]; exact hi)) := List.getElem?_eq_getElem _
  have hu : us[i]? = some (us[i]'(by rw [h.ul]; exact hi)) := List.getElem?_eq_getElem _
  have hl : ls[i]? = some ls[i] := List.getElem?_eq_getElem hi
  rcases h.lv with ⟨e, _⟩ | ⟨cap, h1, h2⟩
  · rw [e] at hi
    simp at hi
  · exact ⟨_, _, cap, _, hl, hb, hu, h1, h2, h.ptr i _ hb, h.line i _ _ _ hl hb hu⟩
/-- One line is another one. -/
theorem DLs.set {w w' : World} {b1 lr : Nat} {lv : Value} {bs : List Nat} {us : List Value} {ls : List LnD} (h : DLs w b1 lr lv bs us ls) {i b : Nat} {u u' : Value} {l' : LnD} (hb : bs[i]? = some b) (hu : us[i]? = some u) (ht : Touch w w' b u u') (hl : Ln w' b1 b l'.w.2.2.1 l'.w.2.2.2 l'.xs l'.ls u') :
    DLs w' b1 lr lv bs (us.set i u') (ls.set i l') ∧ KTouch (b :: (us.filterMap Value.ownBlock)) w w' ∧ ∀ g ∈ DF lr bs (us.set i u'), g ∈ DF lr bs us ∨ w.heap.size ≤ g := by
  have hbm := List.mem_of_getElem? hb
  have hum := List.mem_of_getElem? hu
  have hil : i < us.length := (List.getElem?_eq_some_iff.1 hu).1
  have hne : ls ≠ [] := fun e => by
    have := h.bl
    rw [e, List.length_nil] at this
    have := (List.getElem?_eq_some_iff.1 hb).1
    omega
  have hle := h.le
  have hblk : ∀ k, k < w.heap.size → k ≠ b → u.ownBlock ≠ some k → w'.heap[k]? = w.heap[k]? := fun k h1 h2 h3 => ht.block k h1 h2 (fun e => h3 e.symm)
  have hlow : ∀ k, k < b1 → u.ownBlock ≠ some k := fun k hk e => by have := (h.row u hum k e).1; omega
  have hlr := fun o => World.cell?_of_block (w := w) (w' := w') (a := ⟨lr, o, none⟩) (hblk lr (by have := h.lt.1; omega) (Ne.symm (h.ap b hbm)) (hlow lr h.lt.1))
  refine ⟨⟨?_, fun j b' hj => (hlr j).trans (h.ptr j b' hj), by simp only [List.length_set]; exact h.bl, by simp only [List.length_set]; exact h.ul, fun j l b' u2 h1 h2 h3 => ?_, h.lt, Nat.le_trans h.le ht.size, h.ap, h.two, fun j j' u2 u3 hjj h1 h2 g hg => ?_⟩, ?_, fun g hg => ?_⟩
  · rcases h.lv with ⟨e, _⟩ | ⟨cap, h1, h2⟩
    · exact absurd e hne
    · exact Or.inr ⟨cap, by simp only [List.length_set]; exact h1, by simp only [List.length_set]; exact h2⟩
  · by_cases hij : i = j
    · subst hij
      rw [List.getElem?_set_self (by rw [← h.bl]; exact (List.getElem?_eq_some_iff.1 hb).1)] at h1
      rw [List.getElem?_set_self hil] at h3
      rw [hb] at h2
      obtain rfl := Option.some.inj h1
      obtain rfl := Option.some.inj h2
      obtain rfl := Option.some.inj h3
      exact hl
    · rw [List.getElem?_set_ne hij] at h1 h3
      have hbb : b' ≠ b := by
        rcases Nat.lt_or_ge i j with hlt | hge
        · exact Ne.symm (h.two i j b b' hlt hb h2)
        · exact h.two j i b' b (by omega) h2 hb
      have hL := h.line j l b' u2 h1 h2 h3
      refine hL.touch (M := b :: (u.ownBlock.toList)) (KTouch.ln ht (by simp) (fun g hg => by simp [hg])) (fun hm => ?_) (fun g hg hm => ?_)
      · rcases List.mem_cons.1 hm with e | e
        · exact hbb e
        · have : u.ownBlock = some b' := by simpa using e
          exact hlow b' (h.lt.2 b' (List.mem_of_getElem? h2)) this
      · rcases List.mem_cons.1 hm with e | e
        · have := (h.row u2 (List.mem_of_getElem? h3) g hg).1
          have := h.lt.2 b hbm
          omega
        · have : u.ownBlock = some g := by simpa using e
          exact h.rows j i u2 u (Ne.symm hij) h3 hu g hg this
  · by_cases hi1 : i = j
    · subst hi1
      rw [List.getElem?_set_self hil] at h1
      obtain rfl := Option.some.inj h1
      rw [List.getElem?_set_ne hjj] at h2
      intro e
      rcases ht.new g hg with h4 | h4
      · exact h.rows i j' u u3 hjj hu h2 g h4 e
      · have := (h.row u3 (List.mem_of_getElem? h2) g e).2
        omega
    · rw [List.getElem?_set_ne hi1] at h1
      by_cases hi2 : i = j'
      · subst hi2
        rw [List.getElem?_set_self hil] at h2
        obtain rfl := Option.some.inj h2
        intro e
        rcases ht.new g e with h4 | h4
        · exact h.rows j i u2 u (Ne.symm hi1) h1 hu g hg h4
        · have := (h.row u2 (List.mem_of_getElem? h1) g hg).2
          omega
      · rw [List.getElem?_set_ne hi2] at h2
        exact h.rows j j' u2 u3 hjj h1 h2 g hg
  · exact KTouch.ln ht (by simp) (fun g hg => List.mem_cons_of_mem _ (List.mem_filterMap.2 ⟨u, hum, hg⟩))
  · unfold DF at hg ⊢
    simp only [List.mem_cons, List.mem_append, List.mem_filterMap] at hg ⊢
    rcases hg with h1 | h1 | ⟨v, h1, h2⟩
    · exact Or.inl (Or.inl h1)
    · exact Or.inl (Or.inr (Or.inl h1))
    · rcases List.mem_or_eq_of_mem_set h1 with h3 | h3
      · exact Or.inl (Or.inr (Or.inr ⟨v, h3, h2⟩))
      · subst h3
        rcases ht.new g h2 with h4 | h4
        · exact Or.inl (Or.inr (Or.inr ⟨u, hum, h4⟩))
        · exact Or.inr h4
end Go.Proofs.YtajfgmlockjmhaiGreatDoor
namespace Go.Proofs.YtajfgmlockjmhaiGreatDoor
open Go.RowKit

def woutB (n : Int) : Bool := decide (n < 0) || decide (999 < n)
set_option maxRecDepth 100000 in
set_option maxHeartbeats 1000000 in
theorem wout_yes (n : Int) (w : World) (h : n < 0 ∨ 1000 ≤ n) : Calls Tryz.prog 153 #[.int .i64 n] w fun e w' => e = .returned (.bool true) ∧ w' = w := by
  by_cases h0 : n < 0
  · clear h
    go_enter Tryz.func153, Tryz.ntmps153
    go_wp2
    go_ret
    exact ⟨rfl, rfl⟩
  · have h0' : decide (n < 0) = false := by simpa using h0
    have h1 : 1000 ≤ n := by omega
    clear h
    go_enter Tryz.func153, Tryz.ntmps153
    go_wp2
    go_ret
    exact ⟨rfl, rfl⟩
set_option maxRecDepth 100000 in
set_option maxHeartbeats 1000000 in
theorem wout_no (n : Int) (w : World) (h0 : 0 ≤ n) (h1 : n < 1000) : Calls Tryz.prog 153 #[.int .i64 n] w fun e w' => e = .returned (.bool false) ∧ w' = w := by
  have h0' : decide (n < 0) = false := by simpa using h0
  have h1' : decide (1000 ≤ n) = false := by simpa using h1
  go_enter Tryz.func153, Tryz.ntmps153
  go_wp2
  go_ret
  exact ⟨rfl, rfl⟩
theorem wout_any (n : Int) (w : World) : Calls Tryz.prog 153 #[.int .i64 n] w fun e w' => e = .returned (.bool (woutB n)) ∧ w' = w := by
  by_cases h : n < 0 ∨ 1000 ≤ n
  · have e : woutB n = true := by unfold woutB; rw [Bool.or_eq_true]; rcases h with h | h; exact Or.inl (decide_eq_true h); exact Or.inr (decide_eq_true (by omega))
    rw [e]; exact wout_yes n w h
  · have e : woutB n = false := by unfold woutB; rw [Bool.or_eq_false_iff]; exact ⟨decide_eq_false (by omega), decide_eq_false (by omega)⟩
    rw [e]; exact wout_no n w (by omega) (by omega)
end Go.Proofs.YtajfgmlockjmhaiGreatDoor
namespace Go.Proofs.YtajfgmlockjmhaiGreatDoor
open Go.RowKit

theorem Ln.form {w : World} {base b : Nat} {kd dp ls : Int} {xs : List Int} {v : Value} (h : Ln w base b kd dp xs ls v) : (v = .slice none 0 0 ∧ xs = []) ∨ ∃ g cap, v = .slice (some ⟨g, 0, none⟩) xs.length cap := by
  rcases row_form h.row with ⟨rfl, h0⟩ | ⟨g, cap, rfl⟩
  · exact Or.inl ⟨rfl, List.eq_nil_of_length_eq_zero h0⟩
  · exact Or.inr ⟨_, _, rfl⟩

set_option maxRecDepth 100000 in
set_option maxHeartbeats 2000000 in
theorem peek_none (b : Nat) (kd dp ls : Int) (ao : Option Addr) (cap : Nat) (w : World) (hL : LnC w b kd dp ls (.slice ao 0 cap)) :
    Calls Tryz.prog 118 #[.pointer (some ⟨b, 0, none⟩)] w fun e w' => e = .returned (.tuple #[.int .i64 0, .bool false]) ∧ w' = w := by
  have hlt := hL.lt
  obtain ⟨c0, c1, c2, c3, f2, f3⟩ := hL
  go_enter Tryz.func118, Tryz.ntmps118
  go_wp2
  go_ret2
  exact ⟨rfl, rfl⟩
set_option maxRecDepth 100000 in
set_option maxHeartbeats 2000000 in
theorem peek_some (b : Nat) (kd dp ls : Int) (g m cap : Nat) (x : Int) (w : World) (hL : LnC w b kd dp ls (.slice (some ⟨g, 0, none⟩) m cap)) (hm : 0 < m) (hx : w.cell? ⟨g, 0, none⟩ = some (.int .i64 x)) :
    Calls Tryz.prog 118 #[.pointer (some ⟨b, 0, none⟩)] w fun e w' => e = .returned (.tuple #[.int .i64 x, .bool true]) ∧ w' = w := by
  have hlt := hL.lt
  have hlt2 := wlt hx
  have hm' : ¬ m = 0 := by omega
  obtain ⟨c0, c1, c2, c3, f2, f3⟩ := hL
  go_enter Tryz.func118, Tryz.ntmps118
  go_wp2
  go_ret2
  exact ⟨rfl, rfl⟩
end Go.Proofs.YtajfgmlockjmhaiGreatDoor
namespace Go.Proofs.YtajfgmlockjmhaiGreatDoor
open Go.RowKit

set_option maxRecDepth 100000 in
set_option maxHeartbeats 4000000 in
theorem clone_nil (w : World) : Calls Tryz.prog 102 #[.slice none 0 0] w fun e w' => e = .returned (.slice none 0 0) ∧ w' = w := by
  have q : ∀ (w : World) (a : Option Addr) (n c n' c' : Nat), (binOp .eql 58 (.slice a n c) (.slice none n' c')).run Tryz.prog w = .ok (.bool a.isNone) w := fun w a n c n' c' => Lib.run_eql_slice_nil w _ _ a n c n' c' Tryz.underlying58
  go_enter Tryz.func102, Tryz.ntmps102
  go_wp2
  go_ret
  exact ⟨rfl, rfl⟩
set_option maxRecDepth 100000 in
set_option maxHeartbeats 4000000 in
theorem clone_some (g cap : Nat) (xs : List Int) (w : World) (hx : xs.length ≤ 1000000) (hc : ∀ i x, (ints xs)[i]? = some x → w.cell? ⟨g, i, none⟩ = some x) :
    Calls Tryz.prog 102 #[.slice (some ⟨g, 0, none⟩) xs.length cap] w fun e w' => ∃ v', e = .returned v' ∧ w'.ownsRow w.heap.size 3 1 v' xs.length (ints xs) ∧ Below w.heap.size w w' := by
  obtain ⟨ii, hi, hz0, hz1, hz2⟩ := info_parts infoInt
  have q : ∀ (w : World) (a : Option Addr) (n c n' c' : Nat), (binOp .eql 58 (.slice a n c) (.slice none n' c')).run Tryz.prog w = .ok (.bool a.isNone) w := fun w a n c n' c' => Lib.run_eql_slice_nil w _ _ a n c n' c' Tryz.underlying58
  have HC : Hid (∀ i x, (ints xs)[i]? = some x → w.cell? ⟨g, i, none⟩ = some x) := hc
  clear hc
  go_enter Tryz.func102, Tryz.ntmps102
  go_wp2_with (at_builtin; refine wpList_append_at _ rfl _ _ 58 rfl w.heap.size 3 ii (.int .i64 0) 1 8 Tryz.underlying58 hi hz0 hz1 hz2 rfl (by decide) _ _ _ rfl (World.ownsRow_made w #[] 0 (Nat.le_refl _) (Nat.zero_le _) rfl) ⟨g, 0, none⟩ xs.length cap (ints xs) rfl ?c0A ?c1A ?c2A ?c3A ?c4A ?c5A ?_)
  case c0A => rw [ints_len, Nat.mul_one]
  case c1A =>
    intro j u hj
    have h := HC.out j u hj
    rw [Addr.add_lit, Nat.zero_add]
    exact (((Below.refl _ w).alloc (Nat.le_refl _) _).cell (p := ⟨g, j, none⟩) (wlt h)).trans h
  case c2A => intro u hu; obtain ⟨x, _, rfl⟩ := List.mem_map.1 hu; rfl
  case c3A => unfold maxLen; omega
  case c4A => omega
  case c5A => simp
  intro v1 w2 own1 hg1 hat1
  clear q
  go_wp2
  go_ret
  refine ⟨v1, rfl, by simpa using own1, ((Below.refl _ w).alloc (Nat.le_refl _) _).grown hg1 (by simp) (by intro k hk; simp [Value.ownBlock] at hk; omega)⟩
end Go.Proofs.YtajfgmlockjmhaiGreatDoor
namespace Go.Proofs.YtajfgmlockjmhaiGreatDoor
open Go.RowKit

set_option maxRecDepth 100000 in
set_option maxHeartbeats 4000000 in
theorem clone_at (a : Addr) (cap : Nat) (xs : List Int) (w : World) (hx : xs.length ≤ 1000000) (hc : ∀ i x, (ints xs)[i]? = some x → a.block < w.heap.size ∧ w.cell? (a.add i) = some x) :
    Calls Tryz.prog 102 #[.slice (some a) xs.length cap] w fun e w' => ∃ v', e = .returned v' ∧ w'.ownsRow w.heap.size 3 1 v' xs.length (ints xs) ∧ Below w.heap.size w w' := by
  obtain ⟨ii, hi, hz0, hz1, hz2⟩ := info_parts infoInt
  have q : ∀ (w : World) (a : Option Addr) (n c n' c' : Nat), (binOp .eql 58 (.slice a n c) (.slice none n' c')).run Tryz.prog w = .ok (.bool a.isNone) w := fun w a n c n' c' => Lib.run_eql_slice_nil w _ _ a n c n' c' Tryz.underlying58
  have HC : Hid (∀ i x, (ints xs)[i]? = some x → a.block < w.heap.size ∧ w.cell? (a.add i) = some x) := hc
  clear hc
  go_enter Tryz.func102, Tryz.ntmps102
  go_wp2_with (at_builtin; refine wpList_append_at _ rfl _ _ 58 rfl w.heap.size 3 ii (.int .i64 0) 1 8 Tryz.underlying58 hi hz0 hz1 hz2 rfl (by decide) _ _ _ rfl (World.ownsRow_made w #[] 0 (Nat.le_refl _) (Nat.zero_le _) rfl) a xs.length cap (ints xs) rfl ?c0A ?c1A ?c2A ?c3A ?c4A ?c5A ?_)
  case c0A => rw [ints_len, Nat.mul_one]
  case c1A =>
    intro j u hj
    obtain ⟨h0, h⟩ := HC.out j u hj
    exact (((Below.refl _ w).alloc (Nat.le_refl _) _).cell (p := a.add j) (by rw [show (a.add j).block = a.block by unfold Addr.add; split <;> rfl]; exact h0)).trans h
  case c2A => intro u hu; obtain ⟨x, _, rfl⟩ := List.mem_map.1 hu; rfl
  case c3A => unfold maxLen; omega
  case c4A => omega
  case c5A => simp
  intro v1 w2 own1 hg1 hat1
  clear q
  go_wp2
  go_ret
  refine ⟨v1, rfl, by simpa using own1, ((Below.refl _ w).alloc (Nat.le_refl _) _).grown hg1 (by simp) (by intro k hk; simp [Value.ownBlock] at hk; omega)⟩
set_option maxRecDepth 100000 in
set_option maxHeartbeats 4000000 in
theorem clone_none (cap : Nat) (w : World) : Calls Tryz.prog 102 #[.slice none 0 cap] w fun e w' => e = .returned (.slice none 0 0) ∧ w' = w := by
  have q : ∀ (w : World) (a : Option Addr) (n c n' c' : Nat), (binOp .eql 58 (.slice a n c) (.slice none n' c')).run Tryz.prog w = .ok (.bool a.isNone) w := fun w a n c n' c' => Lib.run_eql_slice_nil w _ _ a n c n' c' Tryz.underlying58
  go_enter Tryz.func102, Tryz.ntmps102
  go_wp2
  go_ret
  exact ⟨rfl, rfl⟩
theorem clone_rd (v : Value) (xs : List Int) (w : World) (hx : xs.length ≤ 1000000) (h : Rd w v xs) :
    Calls Tryz.prog 102 #[v] w fun e w' => ∃ ao cap, e = .returned (.slice ao xs.length cap) ∧ w'.ownsRow w.heap.size 3 1 (.slice ao xs.length cap) xs.length (ints xs) ∧ Below w.heap.size w w' := by
  have fin : ∀ {e : Ending} {w' : World}, (∃ v', e = .returned v' ∧ w'.ownsRow w.heap.size 3 1 v' xs.length (ints xs) ∧ Below w.heap.size w w') → ∃ ao cap, e = .returned (.slice ao xs.length cap) ∧ w'.ownsRow w.heap.size 3 1 (.slice ao xs.length cap) xs.length (ints xs) ∧ Below w.heap.size w w' := by
    rintro e w' ⟨v', he, hr, hb⟩
    rcases row_form hr with ⟨rfl, h0⟩ | ⟨g', cap', rfl⟩
    · exact ⟨none, 0, by rw [h0]; exact he, by rw [h0] at hr ⊢; exact hr, hb⟩
    · exact ⟨_, _, he, hr, hb⟩
  rcases h with ⟨rfl, ao, cap, rfl⟩ | ⟨g, off, cap, rfl, _, _, h2, h3⟩
  · cases ao with
    | none => exact (clone_none cap w).mono fun e w' ⟨he, hw⟩ => ⟨none, 0, he, World.ownsRow_nil _ _ _ _, by rw [hw]; exact Below.refl _ _⟩
    | some a => exact (clone_at a cap [] w (by simp) (fun i x h => by simp [ints] at h)).mono fun e w' h => fin h
  · refine (clone_at ⟨g, off, none⟩ cap xs w hx (fun i x h => ⟨h2, ?_⟩)).mono fun e w' h => fin h
    rw [Addr.add_lit]
    unfold ints at h
    rw [List.getElem?_map] at h
    obtain ⟨y, hy, rfl⟩ := Option.map_eq_some_iff.1 h
    exact h3 i y hy
end Go.Proofs.YtajfgmlockjmhaiGreatDoor
namespace Go.Proofs.YtajfgmlockjmhaiGreatDoor
open Go.RowKit

/-- Where it lies. -/
structure GW where
  cv : Value
  sv : Value
  F0 : List Nat
  rb : Nat
  rcap : Nat
  lv : Value
  lr : Nat
  b1 : Nat
  bs : List Nat
  us : List Value
/-- All its blocks. -/
def GW.F (kb : Nat) (a : GW) : List Nat := kb :: a.rb :: (a.F0 ++ DF a.lr a.bs a.us)
/-- The plan's code and spans, copied: they lie in the blocks F0. -/
def Src (w : World) (F0 : List Nat) (cv sv : Value) (p : PD) : Prop := ∀ w', w.heap.size ≤ w'.heap.size → (∀ b ∈ F0, w'.heap[b]? = w.heap[b]?) → Cds w' cv p.code ∧ Sps w' sv p.spans
theorem Src.here {w : World} {F0 : List Nat} {cv sv : Value} {p : PD} (h : Src w F0 cv sv p) : Cds w cv p.code ∧ Sps w sv p.spans := h w (Nat.le_refl _) (fun _ _ => rfl)
theorem Src.kept {w w' : World} {F0 : List Nat} {cv sv : Value} {p : PD} (h : Src w F0 cv sv p) (hs : w.heap.size ≤ w'.heap.size) (hb : ∀ b ∈ F0, w'.heap[b]? = w.heap[b]?) : Src w' F0 cv sv p := fun w2 h2 hb2 => h w2 (Nat.le_trans hs h2) (fun b hm => (hb2 b hm).trans (hb b hm))
structure GK (w : World) (base : Nat) (p : PD) (k : KD) (kb : Nat) (a : GW) : Prop where
  c0 : w.cell? ⟨kb, 0, none⟩ = some a.cv
  c1 : w.cell? ⟨kb, 1, none⟩ = some (.int .i64 p.ticks)
  c2 : w.cell? ⟨kb, 2, none⟩ = some a.sv
  c3 : w.cell? ⟨kb, 3, none⟩ = some (.slice (some ⟨a.rb, 0, none⟩) k.rooms.length a.rcap)
  c4 : w.cell? ⟨kb, 4, none⟩ = some a.lv
  c5 : w.cell? ⟨kb, 5, none⟩ = some (.int .i64 k.time)
  f5 : w.frozen? ⟨kb, 5, none⟩ = false
  f2 : w.frozen? ⟨kb, 2, none⟩ = false
  src : Src w a.F0 a.cv a.sv p
  rooms : ∀ (i : Nat) s, k.rooms[i]? = some s → StC w a.rb (i * 8) s
  rf : ∀ o, w.frozen? ⟨a.rb, o, none⟩ = false
  lines : DLs w a.b1 a.lr a.lv a.bs a.us k.lines
  ge : ∀ g ∈ a.F kb, base ≤ g
  lt : kb < w.heap.size ∧ a.rb < w.heap.size ∧ ∀ g ∈ a.F0, g < w.heap.size
  ap : kb ≠ a.rb ∧ kb ∉ DF a.lr a.bs a.us ∧ a.rb ∉ DF a.lr a.bs a.us
  ap0 : kb ∉ a.F0 ∧ a.rb ∉ a.F0 ∧ ∀ g ∈ a.F0, g ∉ DF a.lr a.bs a.us
theorem GK.flt {w : World} {base : Nat} {p : PD} {k : KD} {kb : Nat} {a : GW} (h : GK w base p k kb a) : ∀ g ∈ a.F kb, g < w.heap.size := fun g hg => by
  unfold GW.F at hg
  rcases List.mem_cons.1 hg with h1 | h1
  · rw [h1]; exact h.lt.1
  · rcases List.mem_cons.1 h1 with h2 | h2
    · rw [h2]; exact h.lt.2.1
    · rcases List.mem_append.1 h2 with h3 | h3
      · exact h.lt.2.2 g h3
      · exact h.lines.flt g h3
/-- What is written elsewhere leaves it as it is. -/
theorem GK.frame {w w' : World} {base : Nat} {p : PD} {k : KD} {kb : Nat} {a : GW} (h : GK w base p k kb a) {M : List Nat} (ht : KTouch M w w') (hM : ∀ m ∈ M, m ∉ a.F kb) : GK w' base p k kb a := by
  have m1 : kb ∈ a.F kb := by simp [GW.F]
  have m2 : a.rb ∈ a.F kb := by simp [GW.F]
  have m3 : ∀ g ∈ a.F0, g ∈ a.F kb := fun g hg => by simp [GW.F, hg]
  have m4 : ∀ g ∈ DF a.lr a.bs a.us, g ∈ a.F kb := fun g hg => by simp [GW.F, hg]
  have b1 := ht.block kb h.lt.1 (fun hm => hM _ hm m1)
  have b2 := ht.block a.rb h.lt.2.1 (fun hm => hM _ hm m2)
  have hc := fun o => World.cell?_of_block (w := w) (w' := w') (a := ⟨kb, o, none⟩) b1
  have hf := fun o => World.frozen?_of_block (w := w) (w' := w') (a := ⟨kb, o, none⟩) b1
  have hrf := fun o => World.frozen?_of_block (w := w) (w' := w') (a := ⟨a.rb, o, none⟩) b2
  have hs := ht.size
  exact ⟨(hc 0).trans h.c0, (hc 1).trans h.c1, (hc 2).trans h.c2, (hc 3).trans h.c3, (hc 4).trans h.c4, (hc 5).trans h.c5, (hf 5).trans h.f5, (hf 2).trans h.f2, h.src.kept hs (fun b hb => ht.block b (h.lt.2.2 b hb) (fun hm => hM b hm (m3 b hb))), fun i s hs => (h.rooms i s hs).block b2, fun o => (hrf o).trans (h.rf o), h.lines.frame ht (fun m hm hd => hM m hm (m4 m hd)), h.ge, ⟨by have := h.lt.1; omega, by have := h.lt.2.1; omega, fun g hg => by have := h.lt.2.2 g hg; omega⟩, h.ap, h.ap0⟩
theorem GK.all {w w' : World} {base : Nat} {p : PD} {k : KD} {kb : Nat} {a : GW} (h : GK w base p k kb a) (hb : Below w.heap.size w w') : GK w' base p k kb a := h.frame (M := []) (KTouch.of hb) (by simp)
theorem GK.lower {w : World} {base base' : Nat} {p : PD} {k : KD} {kb : Nat} {a : GW} (h : GK w base p k kb a) (hb : base' ≤ base) : GK w base' p k kb a :=
  ⟨h.c0, h.c1, h.c2, h.c3, h.c4, h.c5, h.f5, h.f2, h.src, h.rooms, h.rf, h.lines, fun g hg => Nat.le_trans hb (h.ge g hg), h.lt, h.ap, h.ap0⟩
/-- The time is written. -/
theorem GK.time {w : World} {base : Nat} {p : PD} {k : KD} {kb : Nat} {a : GW} (h : GK w base p k kb a) (t : Int) : GK (w.setCell ⟨kb, 5, none⟩ (.int .i64 t)) base p ⟨k.rooms, k.lines, t⟩ kb a := by
  have ht : KTouch [kb] w (w.setCell ⟨kb, 5, none⟩ (.int .i64 t)) := KTouch.set w (by simp) 5 _
  have b2 : (w.setCell ⟨kb, 5, none⟩ (.int .i64 t)).heap[a.rb]? = w.heap[a.rb]? := Below.heap_setCell _ _ _ _ (Ne.symm h.ap.1)
  refine ⟨by simpa [go_sem] using h.c0, by simpa [go_sem] using h.c1, by simpa [go_sem] using h.c2, by simpa [go_sem] using h.c3, by simpa [go_sem] using h.c4, by simp [go_sem, h.c5], by simpa using h.f5, by simpa using h.f2, h.src.kept (by simp) (fun b hb => Below.heap_setCell _ _ _ _ (fun e => h.ap0.1 (by rw [← show b = kb from e]; exact hb))), fun i s hs => (h.rooms i s hs).block b2, fun o => by simpa using h.rf o, h.lines.frame ht (fun m hm => ?_), h.ge, by simpa using h.lt, h.ap, h.ap0⟩
  rw [List.mem_singleton] at hm
  subst hm
  exact h.ap.2.1
/-- A room is another one: what is written lies within its eight cells. -/
theorem GK.room {w w' : World} {base : Nat} {p : PD} {k : KD} {kb : Nat} {a : GW} (h : GK w base p k kb a) {r : Nat} {s s' : St} (hr : k.rooms[r]? = some s) (ht : KTouch [a.rb] w w') (hat : StC w' a.rb (r * 8) s') (hoff : ∀ i, i < r * 8 ∨ r * 8 + 8 ≤ i → w'.cell? ⟨a.rb, i, none⟩ = w.cell? ⟨a.rb, i, none⟩) (hfz : ∀ i, w'.frozen? ⟨a.rb, i, none⟩ = w.frozen? ⟨a.rb, i, none⟩) : GK w' base p ⟨k.rooms.set r s', k.lines, k.time⟩ kb a := by
  have hlen := (List.getElem?_eq_some_iff.1 hr).1
  have b1 := ht.block kb h.lt.1 (by simpa using h.ap.1)
  have hc := fun o => World.cell?_of_block (w := w) (w' := w') (a := ⟨kb, o, none⟩) b1
  have hf := fun o => World.frozen?_of_block (w := w) (w' := w') (a := ⟨kb, o, none⟩) b1
  have hs := ht.size
  refine ⟨(hc 0).trans h.c0, (hc 1).trans h.c1, (hc 2).trans h.c2, by simp only [List.length_set]; exact (hc 3).trans h.c3, (hc 4).trans h.c4, (hc 5).trans h.c5, (hf 5).trans h.f5, (hf 2).trans h.f2, h.src.kept hs (fun b hb => ht.block b (h.lt.2.2 b hb) (fun hm => ?_)), fun j s2 hs => ?_, fun o => (hfz o).trans (h.rf o), h.lines.frame ht (fun m hm => ?_), h.ge, ⟨by have := h.lt.1; omega, by have := h.lt.2.1; omega, fun g hg => by have := h.lt.2.2 g hg; omega⟩, h.ap, h.ap0⟩
  · rw [List.mem_singleton] at hm
    subst hm
    exact h.ap0.2.1 hb
  · simp only at hs
    by_cases hij : r = j
    · subst hij
      rw [List.getElem?_set_self hlen] at hs
      obtain rfl := Option.some.inj hs
      exact hat
    · rw [List.getElem?_set_ne hij] at hs
      obtain ⟨q0, q1, q2, q3, q4, q5, q6, q7⟩ := h.rooms j s2 hs
      exact ⟨(hoff _ (by omega)).trans q0, (hoff _ (by omega)).trans q1, (hoff _ (by omega)).trans q2, (hoff _ (by omega)).trans q3, (hoff _ (by omega)).trans q4, (hoff _ (by omega)).trans q5, (hoff _ (by omega)).trans q6, (hoff _ (by omega)).trans q7⟩
  · rw [List.mem_singleton] at hm
    subst hm
    exact h.ap.2.2
theorem GK.set {w : World} {base : Nat} {p : PD} {k : KD} {kb : Nat} {a : GW} (h : GK w base p k kb a) {r : Nat} {s : St} (hr : k.rooms[r]? = some s) (s' : St) : GK (setSt w a.rb (r * 8) s') base p ⟨k.rooms.set r s', k.lines, k.time⟩ kb a :=
  h.room hr (setSt_touch w (by simp) _ _) (setSt_at (h.rooms r s hr)) (fun i hi => setSt_off hi) (fun i => setSt_frozen _ _ _ _ _)
theorem GK.poke {w : World} {base : Nat} {p : PD} {k : KD} {kb : Nat} {a : GW} (h : GK w base p k kb a) {r c : Nat} {s : St} (hr : k.rooms[r]? = some s) (hc : c ≤ 5) (n : Int) : GK (w.setCell ⟨a.rb, r * 8 + 1 + c, none⟩ (.int .i64 n)) base p ⟨k.rooms.set r (pokeS s c n), k.lines, k.time⟩ kb a :=
  h.room hr (KTouch.set w (by simp) _ _) ((h.rooms r s hr).poke hc n) (fun i hi => setCell_far (by omega)) (fun i => by simp)
/-- A line is another one. -/
theorem GK.line {w w' : World} {base : Nat} {p : PD} {k : KD} {kb : Nat} {a : GW} (h : GK w base p k kb a) (hbw : base ≤ w.heap.size) {i b : Nat} {u u' : Value} {l' : LnD} (hb : a.bs[i]? = some b) (hu : a.us[i]? = some u) (ht : Touch w w' b u u') (hl : Ln w' a.b1 b l'.w.2.2.1 l'.w.2.2.2 l'.xs l'.ls u') :
    GK w' base p ⟨k.rooms, k.lines.set i l', k.time⟩ kb { a with us := a.us.set i u' } ∧ KTouch (a.F kb) w w' ∧ ∀ g ∈ GW.F kb { a with us := a.us.set i u' }, g ∈ a.F kb ∨ w.heap.size ≤ g := by
  obtain ⟨h1, h2, h3⟩ := h.lines.set hb hu ht hl
  have hsub : ∀ m ∈ b :: (a.us.filterMap Value.ownBlock), m ∈ DF a.lr a.bs a.us := fun m hm => by
    unfold DF
    simp only [List.mem_cons, List.mem_append] at hm ⊢
    rcases hm with e | e
    · subst e
      exact Or.inr (Or.inl (List.mem_of_getElem? hb))
    · exact Or.inr (Or.inr e)
  have hk : kb ∉ b :: (a.us.filterMap Value.ownBlock) := fun hm => h.ap.2.1 (hsub _ hm)
  have hr : a.rb ∉ b :: (a.us.filterMap Value.ownBlock) := fun hm => h.ap.2.2 (hsub _ hm)
  have b1 := h2.block kb h.lt.1 hk
  have b2 := h2.block a.rb h.lt.2.1 hr
  have hc := fun o => World.cell?_of_block (w := w) (w' := w') (a := ⟨kb, o, none⟩) b1
  have hf := fun o => World.frozen?_of_block (w := w) (w' := w') (a := ⟨kb, o, none⟩) b1
  have hrf := fun o => World.frozen?_of_block (w := w) (w' := w') (a := ⟨a.rb, o, none⟩) b2
  have hs := h2.size
  have hnew : ∀ g ∈ GW.F kb { a with us := a.us.set i u' }, g ∈ a.F kb ∨ w.heap.size ≤ g := fun g hg => by
    unfold GW.F at hg ⊢
    simp only [List.mem_cons, List.mem_append] at hg ⊢
    rcases hg with e | e | e | e
    · exact Or.inl (Or.inl e)
    · exact Or.inl (Or.inr (Or.inl e))
    · exact Or.inl (Or.inr (Or.inr (Or.inl e)))
    · rcases h3 g e with e | e
      · exact Or.inl (Or.inr (Or.inr (Or.inr e)))
      · exact Or.inr e
  refine ⟨⟨(hc 0).trans h.c0, (hc 1).trans h.c1, (hc 2).trans h.c2, (hc 3).trans h.c3, (hc 4).trans h.c4, (hc 5).trans h.c5, (hf 5).trans h.f5, (hf 2).trans h.f2, h.src.kept hs (fun g hg => h2.block g (h.lt.2.2 g hg) (fun hm => h.ap0.2.2 g hg (hsub g hm))), fun j s hs => (h.rooms j s hs).block b2, fun o => (hrf o).trans (h.rf o), h1, fun g hg => ?_, ⟨by have := h.lt.1; omega, by have := h.lt.2.1; show a.rb < _; omega, fun g hg => by have := h.lt.2.2 g hg; omega⟩, ⟨h.ap.1, fun hm => ?_, fun hm => ?_⟩, ⟨h.ap0.1, h.ap0.2.1, fun g hg hm => ?_⟩⟩, h2.mono (fun m hm => by simp [GW.F, hsub m hm]), hnew⟩
  · rcases hnew g hg with e | e
    · exact h.ge g e
    · omega
  · rcases h3 kb hm with e | e
    · exact h.ap.2.1 e
    · have := h.lt.1
      omega
  · rcases h3 a.rb hm with e | e
    · exact h.ap.2.2 e
    · have := h.lt.2.1
      omega
  · rcases h3 g hm with e | e
    · exact h.ap0.2.2 g hg e
    · have := h.lt.2.2 g hg
      omega
end Go.Proofs.YtajfgmlockjmhaiGreatDoor
namespace Go.Proofs.YtajfgmlockjmhaiGreatDoor
open Go.RowKit

set_option maxRecDepth 1000000 in
set_option maxHeartbeats 4000000 in
theorem del_walk (g cap : Nat) (x : Int) (ys : List Int) (w : World) (hcap : ys.length + 1 ≤ cap) (hm : cap ≤ 9223372036854775807) (hc : ∀ i x', (ints (x :: ys))[i]? = some x' → w.cell? ⟨g, i, none⟩ = some x') (hs : ∀ i, i < cap → (w.cell? ⟨g, i, none⟩).isSome = true) (hf : ∀ i, w.frozen? ⟨g, i, none⟩ = false) :
    Calls Tryz.prog 155 #[.slice (some ⟨g, 0, none⟩) (ys.length + 1) cap, .int .i64 0, .int .i64 1] w fun e w' => e = .returned (.slice (some ⟨g, 0, none⟩) ys.length cap) ∧ w' = (w.drew.setCells g 0 (ints ys)).setCells g ys.length [.int .i64 0] := by
  obtain ⟨ii, hi, hz0, hz1, hz2⟩ := info_parts infoInt
  obtain ⟨A, hA, hsrc⟩ : ∃ A : Addr, (if cap = 1 then some (⟨g, 0, none⟩ : Addr) else some ⟨g, 1, none⟩) = some A ∧ Hid (∀ t u, (ints ys)[t]? = some u → w.drew.cell? (A.add t) = some u) := by
    by_cases h : cap = 1
    · refine ⟨⟨g, 0, none⟩, by simp [h], fun t u hu => ?_⟩
      have h0 : ys = [] := List.eq_nil_of_length_eq_zero (by omega)
      subst h0
      simp [ints] at hu
    · refine ⟨⟨g, 1, none⟩, by simp [h], fun t u hu => ?_⟩
      rw [Addr.add_lit, Nat.add_comm]
      exact hc (t + 1) u (by simpa [ints] using hu)
  have s1 : Hid ((ints ys).length = ys.length * 1) := by show _ = _; rw [ints_len, Nat.mul_one]
  have s2 : Hid (∀ u ∈ ints ys, u.oneCell' = true) := by
    intro u hu
    obtain ⟨x, _, rfl⟩ := List.mem_map.1 hu
    rfl
  have s3 : Hid (∀ t, t < (ints ys).length → (w.drew.cell? ⟨g, 0 + 0 * 1 + t, none⟩).isSome = true ∧ w.drew.frozen? ⟨g, 0 + 0 * 1 + t, none⟩ = false) := by
    intro t ht
    rw [ints_len] at ht
    exact ⟨by rw [show 0 + 0 * 1 + t = t by omega]; exact hs t (by omega), hf _⟩
  obtain ⟨W1, hW1⟩ : ∃ W1, W1 = w.drew.setCells g (0 + 0 * 1) (ints ys) := ⟨_, rfl⟩
  have hcl : ∀ ty, (Builtin.clear_ #[58] ty #[.slice (some ⟨g, ys.length, none⟩) 1 (cap - ys.length)]).run Tryz.prog W1 = .ok (.tuple #[]) (W1.setCells g ys.length [.int .i64 0]) := by
    intro ty
    have hce : W1.cell? ⟨g, ys.length, none⟩ = w.cell? ⟨g, ys.length, none⟩ := by
      rw [hW1, World.cell?_setCells_out g _ _ _ _ (fun _ _ => by right; show 0 + 0 * 1 + (ints ys).length ≤ ys.length; rw [ints_len]; omega)]
      rfl
    have hfe : W1.frozen? ⟨g, ys.length, none⟩ = w.frozen? ⟨g, ys.length, none⟩ := by
      rw [hW1, World.frozen?_setCells]
      rfl
    exact Lib.run_clear_slice W1 58 3 ty (.int .i64 0) Tryz.underlying58 Tryz.zeroValue3 rfl rfl g ys.length 1 (cap - ys.length) (by omega)
      (fun j hj => by obtain rfl : j = 0 := by omega
                      rw [Nat.add_zero, hce]; exact hs _ (by omega))
      (fun j hj => by obtain rfl : j = 0 := by omega
                      rw [Nat.add_zero, hfe]; exact hf _)
  have hW : Hid (W1 = w.drew.setCells g (0 + 0 * 1) (ints ys)) := hW1
  clear hW1
  have h1c : 1 ≤ cap := by omega
  have h1i : (1 : Int) ≤ (ys.length : Int) + 1 := by omega
  clear hc hs hf
  go_enter Tryz.func155, Tryz.ntmps155
  go_wp2_with fail
  go_region_law (refine step_append_room rfl (.tmp 22) (.tmp 25) 58 rfl 3 ii 1 Tryz.underlying58 hi hz1 g 0 0 cap (by simp [Act.eval, Act.put]) A ys.length (cap - 1) (ints ys) (by simp [Act.eval, Act.put]) s1.out hsrc.out s2.out (by omega) s3.out ?_; rw [← hW.out])
  all_goals go_wp2
  all_goals go_ret
  all_goals exact ⟨rfl, by rw [hW.out]⟩

theorem cells_heap {g : Nat} {e : TypeId} : ∀ (vs : List Value) (o : Nat) (w : World) (cur : Array Value), w.heap[g]? = some (.cells cur e (0, 0)) → ∃ cur', (w.setCells g o vs).heap[g]? = some (.cells cur' e (0, 0)) ∧ cur'.size = cur.size
  | [], _, _, cur, h => ⟨cur, h, rfl⟩
  | v :: r, o, w, cur, h => by
    obtain ⟨c, h1, h2⟩ := cells_heap r (o + 1) (w.setCell ⟨g, o, none⟩ v) _ (heap_setCell_same w g o cur e v h)
    exact ⟨c, h1, by simpa using h2⟩
theorem cells_other {g k : Nat} (hk : k ≠ g) : ∀ (vs : List Value) (o : Nat) (w : World), (w.setCells g o vs).heap[k]? = w.heap[k]?
  | [], _, _ => rfl
  | v :: r, o, w => by rw [World.setCells, cells_other hk r, heap_setCell_other _ _ _ _ hk]
theorem cells_rest (g : Nat) : ∀ (vs : List Value) (o : Nat) (w : World), (w.setCells g o vs).os = w.os ∧ (w.setCells g o vs).tape = w.tape ∧ (w.setCells g o vs).output = w.output ∧ (w.setCells g o vs).heap.size = w.heap.size
  | [], _, _ => ⟨rfl, rfl, rfl, rfl⟩
  | v :: r, o, w => by
    obtain ⟨h1, h2, h3, h4⟩ := cells_rest g r (o + 1) (w.setCell ⟨g, o, none⟩ v)
    exact ⟨h1, h2, h3, h4.trans (by simp [World.setCell])⟩
/-- Behind it the row is what it was without its first. -/
theorem del_row {base g cap : Nat} {x : Int} {ys : List Int} {w : World} (h : w.ownsRow base 3 1 (.slice (some ⟨g, 0, none⟩) (ys.length + 1) cap) (ys.length + 1) (ints (x :: ys))) :
    ((w.drew.setCells g 0 (ints ys)).setCells g ys.length [.int .i64 0]).ownsRow base 3 1 (.slice (some ⟨g, 0, none⟩) ys.length cap) ys.length (ints ys) ∧ w.grownBy ((w.drew.setCells g 0 (ints ys)).setCells g ys.length [.int .i64 0]) (some g) := by
  have hcap := own_cap h
  rcases h.2 with ⟨h2, _⟩ | ⟨g', cap', cur, e0, h3, h4, h5, h6, h7, h8⟩
  · cases h2
  · injection e0 with e1 _ e3
    injection e1 with e1
    injection e1 with e1
    subst e1
    subst e3
    obtain ⟨c1, i1, i2⟩ := cells_heap (g := g) (ints ys) 0 w.drew cur h4
    obtain ⟨c2, j1, j2⟩ := cells_heap (g := g) [.int .i64 0] ys.length _ c1 i1
    obtain ⟨a1, a2, a3, a4⟩ := cells_rest g (ints ys) 0 w.drew
    obtain ⟨b1, b2, b3, b4⟩ := cells_rest g [.int .i64 0] ys.length (w.drew.setCells g 0 (ints ys))
    refine ⟨⟨by rw [ints_len, Nat.mul_one], Or.inr ⟨g, cap, c2, rfl, h3, j1, by omega, h6, by omega, ?_⟩⟩, ⟨b1.trans a1, b2.trans a2, b3.trans a3, by rw [b4, a4]; exact Nat.le_refl _, fun k _ hk => ?_⟩⟩
    · apply List.ext_getElem?
      intro i
      rw [List.getElem?_take, Nat.mul_one]
      by_cases hi : i < ys.length
      · rw [if_pos hi, Array.getElem?_toList]
        have hin := World.cell?_setCells_in g (ints ys) 0 w.drew (fun j hj => hcap.2.2.2.2.2.1 _ (by rw [ints_len] at hj; omega)) i (by rw [ints_len]; exact hi)
        rw [Nat.zero_add] at hin
        have hout := World.cell?_setCells_out g [.int .i64 0] ys.length (w.drew.setCells g 0 (ints ys)) ⟨g, i, none⟩ (fun _ _ => Or.inl hi)
        rw [hin, cell_of_row _ g i c2 _ _ j1] at hout
        rw [hout, List.getElem?_eq_getElem (by rw [ints_len]; exact hi)]
      · rw [if_neg hi, List.getElem?_eq_none (by rw [ints_len]; omega)]
    · have hkg : k ≠ g := fun e => hk (by rw [e])
      rw [cells_other hkg, cells_other hkg]
      rfl
theorem del_first (base g cap : Nat) (x : Int) (ys : List Int) (w : World) (h : w.ownsRow base 3 1 (.slice (some ⟨g, 0, none⟩) (ys.length + 1) cap) (ys.length + 1) (ints (x :: ys))) :
    Calls Tryz.prog 155 #[.slice (some ⟨g, 0, none⟩) (ys.length + 1) cap, .int .i64 0, .int .i64 1] w fun e w' => e = .returned (.slice (some ⟨g, 0, none⟩) ys.length cap) ∧
      w'.ownsRow base 3 1 (.slice (some ⟨g, 0, none⟩) ys.length cap) ys.length (ints ys) ∧ w.grownBy w' (some g) := by
  obtain ⟨_, _, h3, h4, h5, h6, h7⟩ := own_cap h
  refine (del_walk g cap x ys w h3 (by simpa [maxLen] using h4) h5 h6 h7).mono fun e w' ⟨he, hw⟩ => ?_
  subst hw
  exact ⟨he, del_row h⟩
end Go.Proofs.YtajfgmlockjmhaiGreatDoor
namespace Go.Proofs.YtajfgmlockjmhaiGreatDoor
open Go.RowKit

set_option maxRecDepth 100000 in
set_option maxHeartbeats 2000000 in
theorem take_none (b : Nat) (kd dp ls : Int) (ao : Option Addr) (cap : Nat) (w : World) (hL : LnC w b kd dp ls (.slice ao 0 cap)) :
    Calls Tryz.prog 123 #[.pointer (some ⟨b, 0, none⟩)] w fun e w' => e = .returned (.tuple #[.int .i64 0, .iface 93 (.int .i64 5)]) ∧ w' = w := by
  have hp := peek_none b kd dp ls ao cap w hL
  clear hL
  go_enter Tryz.func123, Tryz.ntmps123
  go_wp2_with (go_at_call 118; refine hp.mono ?_; rintro e w1 ⟨rfl, rfl⟩; clear hp)
  go_ret2
  exact ⟨rfl, rfl⟩
set_option maxRecDepth 100000 in
set_option maxHeartbeats 2000000 in
theorem take_sample (b : Nat) (dp ls : Int) (g m cap : Nat) (x : Int) (w : World) (hL : LnC w b 1 dp ls (.slice (some ⟨g, 0, none⟩) m cap)) (hm : 0 < m) (hx : w.cell? ⟨g, 0, none⟩ = some (.int .i64 x)) :
    Calls Tryz.prog 123 #[.pointer (some ⟨b, 0, none⟩)] w fun e w' => e = .returned (.tuple #[.int .i64 x, .nilIface]) ∧ w' = w := by
  have hp := peek_some b 1 dp ls g m cap x w hL hm hx
  have hlt := hL.lt
  obtain ⟨c0, c1, c2, c3, f2, f3⟩ := hL
  clear c1 c2 c3 f2 f3 hx
  go_enter Tryz.func123, Tryz.ntmps123
  go_wp2_with (go_at_call 118; refine hp.mono ?_; rintro e w1 ⟨rfl, rfl⟩; clear hp)
  go_ret2
  exact ⟨rfl, rfl⟩
set_option maxRecDepth 100000 in
set_option maxHeartbeats 4000000 in
theorem take_queue (base b : Nat) (dp ls : Int) (x : Int) (ys : List Int) (v : Value) (w : World) (hL : Ln w base b 2 dp (x :: ys) ls v) :
    Calls Tryz.prog 123 #[.pointer (some ⟨b, 0, none⟩)] w fun e w' => ∃ v', e = .returned (.tuple #[.int .i64 x, .nilIface]) ∧ Ln w' base b 2 dp ys ls v' ∧ Touch w w' b v v' := by
  obtain ⟨g, cap, rfl⟩ : ∃ g cap, v = .slice (some ⟨g, 0, none⟩) (ys.length + 1) cap := by
    rcases row_form hL.row with ⟨_, h⟩ | h
    · simp at h
    · exact h
  have hrow := hL.row
  have hcp := own_cap hrow
  have hx : w.cell? ⟨g, 0, none⟩ = some (.int .i64 x) := hcp.2.2.2.2.1 0 _ rfl
  have hp := peek_some b 2 dp ls g (ys.length + 1) cap x w hL.c (by omega) hx
  have hd := del_first base g cap x ys w hrow
  have HL : Hid (Ln w base b 2 dp (x :: ys) ls (.slice (some ⟨g, 0, none⟩) (ys.length + 1) cap)) := hL
  have hlt := hL.c.lt
  have hbg : b ≠ g := by have := hL.lt; have := hcp.1; omega
  obtain ⟨c0, c1, c2, c3, f2, f3⟩ := hL.c
  clear c1 c3 f3 hx hL hrow hcp
  go_enter Tryz.func123, Tryz.ntmps123
  go_wp2_with (first | (go_at_call 118; refine hp.mono ?_; rintro e w1 ⟨rfl, rfl⟩; clear hp) | (go_at_call 155; refine hd.mono ?_; rintro e w2 ⟨rfl, own2, hg2⟩; clear hd; have hb2 := hg2.block b hlt (fun e => hbg (Option.some.inj e)); have hc2 := HL.out.c.block hb2; have HC : Hid (LnC w2 b 2 dp ls (.slice (some ⟨g, 0, none⟩) (ys.length + 1) cap)) := hc2; obtain ⟨k0, k1, k2, k3, k4, k5⟩ := hc2; clear k0 k1 k3 k5; have hlt2 := HC.out.lt))
  go_ret2
  refine ⟨_, rfl, ⟨HC.out.items _, ownsRow_setCell_below own2 (a := ⟨b, 2, none⟩) HL.out.lt _, HL.out.lt, by have := HL.out.le; have := hg2.size; simp; omega⟩, ?_⟩
  exact ((Touch.refl w1 b (.slice (some ⟨g, 0, none⟩) (ys.length + 1) cap)).grown (v2 := .slice (some ⟨g, 0, none⟩) ys.length cap) hg2 (fun k hk => Or.inl hk)).set 2 _
end Go.Proofs.YtajfgmlockjmhaiGreatDoor
namespace Go.Proofs.YtajfgmlockjmhaiGreatDoor
open Go.RowKit

/-- The kernel's block. -/
def GB (W : World) (b : Nat) (cv : Value) (t : Int) (sv rv lv : Value) : Prop := W.heap[b]? = some (.cells #[cv, .int .i64 t, sv, rv, lv, .int .i64 0] 85 (0, 0))
theorem GB.cs {W : World} {b : Nat} {cv sv rv lv : Value} {t : Int} (h : GB W b cv t sv rv lv) : W.cell? ⟨b, 0, none⟩ = some cv ∧ W.cell? ⟨b, 1, none⟩ = some (.int .i64 t) ∧ W.cell? ⟨b, 2, none⟩ = some sv ∧ W.cell? ⟨b, 3, none⟩ = some rv ∧ W.cell? ⟨b, 4, none⟩ = some lv ∧ W.cell? ⟨b, 5, none⟩ = some (.int .i64 0) := by
  have e : W.heap[b]? = _ := h
  simp [World.cell?, e]
theorem GB.free {W : World} {b : Nat} {cv sv rv lv : Value} {t : Int} (h : GB W b cv t sv rv lv) (o : Nat) : W.frozen? ⟨b, o, none⟩ = false := by
  have e : W.heap[b]? = _ := h
  simp [World.frozen?, e]
theorem GB.code {W : World} {b : Nat} {cv sv rv lv : Value} {t : Int} (h : GB W b cv t sv rv lv) (v : Value) : GB (W.setCell ⟨b, 0, none⟩ v) b v t sv rv lv := by
  have e : W.heap[b]? = _ := h
  unfold GB
  simp [World.setCell, Array.getElem?_modify, e]
theorem GB.rooms {W : World} {b : Nat} {cv sv rv lv : Value} {t : Int} (h : GB W b cv t sv rv lv) (v : Value) : GB (W.setCell ⟨b, 3, none⟩ v) b cv t sv v lv := by
  have e : W.heap[b]? = _ := h
  unfold GB
  simp [World.setCell, Array.getElem?_modify, e]
theorem GB.lines {W : World} {b : Nat} {cv sv rv lv : Value} {t : Int} (h : GB W b cv t sv rv lv) (v : Value) : GB (W.setCell ⟨b, 4, none⟩ v) b cv t sv rv v := by
  have e : W.heap[b]? = _ := h
  unfold GB
  simp [World.setCell, Array.getElem?_modify, e]
/-- A row has grown: what was there ahead, but one block, is as it was. -/
theorem KTouch.grow {M : List Nat} {W0 W w2 wa : World} {row : Option Nat} (h : KTouch M W0 W) (hb : Below W.heap.size W w2) (hg : w2.grownBy wa row) (hr : ∀ k, row = some k → W0.heap.size ≤ k) : KTouch M W0 wa :=
  ⟨hg.os.trans (hb.os.trans h.os), hg.tape.trans (hb.tape.trans h.tape), hg.output.trans (hb.output.trans h.output), Nat.le_trans h.size (Nat.le_trans hb.size hg.size), fun k hk hm => by
    have h1 := h.size
    have h2 := hb.size
    exact (hg.block k (by omega) (fun e => by have := hr k e.symm; omega)).trans ((hb.block k (by omega)).trans (h.block k hk hm))⟩
/-- Rooms are being made: code and states so far. -/
structure N1 (W0 W : World) (kb : Nat) (p : PD) (sv cv rv : Value) (us : List Value) (m : Nat) : Prop where
  tk : KTouch [kb] W0 W
  kl : kb < W0.heap.size
  blk : GB W kb cv p.ticks sv rv (.slice none 0 0)
  code : W.ownsRow W0.heap.size 29 1 cv us.length us
  rows : ∀ (i : Nat) u c, us[i]? = some u → p.code[i]? = some c → W.ownsRow W0.heap.size 28 3 u c.length (spCells c)
  rooms : W.ownsRow W0.heap.size 73 8 rv m (stCells (List.replicate m stNew))
  len : us.length ≤ p.code.length
theorem N1.first {W0 : World} {kb : Nat} {p : PD} {sv : Value} (hk : kb < W0.heap.size) (h : GB W0 kb (.slice none 0 0) p.ticks sv (.slice none 0 0) (.slice none 0 0)) : N1 W0 W0 kb p sv (.slice none 0 0) (.slice none 0 0) [] 0 :=
  ⟨KTouch.refl _ _, hk, h, World.ownsRow_nil _ _ _ _, fun i u c hi => (by simp at hi), World.ownsRow_nil _ _ _ _, Nat.zero_le _⟩
/-- One code more. -/
theorem N1.more {W0 W w1 wa : World} {kb m : Nat} {p : PD} {sv cv cv' rv u : Value} {us : List Value} {c : List O3} (h : N1 W0 W kb p sv cv rv us m) (hc : p.code[us.length]? = some c) (b1 : Below W.heap.size W w1) (hu : w1.ownsRow W.heap.size 28 3 u c.length (spCells c))
    (hg : (w1.alloc (.cells #[u] 29)).grownBy wa cv.ownBlock) (hown : wa.ownsRow W0.heap.size 29 1 cv' (us.length + 1) (us ++ [u])) : N1 W0 (wa.setCell ⟨kb, 0, none⟩ cv') kb p sv cv' rv (us ++ [u]) m := by
  have b2 : Below W.heap.size W (w1.alloc (.cells #[u] 29)) := b1.alloc b1.size _
  have hs := h.tk.size
  have hcr : ∀ k, cv.ownBlock = some k → W0.heap.size ≤ k := fun k hk => (h.code.lt k hk).1
  have code2 := own_below h.code b2 (Nat.le_refl _)
  have hset : ∀ {e : TypeId} {size : Nat} {v : Value} {n : Nat} {xs : List Value}, wa.ownsRow W0.heap.size e size v n xs → (wa.setCell ⟨kb, 0, none⟩ cv').ownsRow W0.heap.size e size v n xs := fun hx => ownsRow_setCell_below hx (a := ⟨kb, 0, none⟩) h.kl cv'
  refine ⟨(h.tk.grow b2 hg hcr).trans (KTouch.set _ (by simp) 0 _), h.kl, GB.code (cv := cv) ?_ cv', ?_, fun i x d hx hd => ?_, ?_, ?_⟩
  · have hlt : kb < W.heap.size := Nat.lt_of_lt_of_le h.kl hs
    have h1 := b2.size
    exact (hg.block kb (by omega) (fun e => by have := hcr kb e.symm; have := h.kl; omega)).trans ((b2.block kb hlt).trans h.blk)
  · rw [List.length_append]
    exact hset hown
  · by_cases hi : i < us.length
    · rw [List.getElem?_append_left hi] at hx
      have r2 := own_below (h.rows i x d hx hd) b2 (Nat.le_refl _)
      exact hset (r2.kept hg (own_apart (by decide) r2 code2))
    · have hlt := (List.getElem?_eq_some_iff.1 hx).1
      rw [List.length_append, List.length_singleton] at hlt
      obtain rfl : i = us.length := by omega
      rw [List.getElem?_append_right (Nat.le_refl _), Nat.sub_self] at hx
      simp only [List.getElem?_cons_zero, Option.some.injEq] at hx
      subst hx
      rw [hc] at hd
      obtain rfl := Option.some.inj hd
      have r2 := own_base (own_below hu ((Below.refl _ w1).alloc (Nat.le_refl _) (.cells #[u] 29)) (Nat.le_refl _)) hs
      exact hset (r2.kept hg (own_apart (by decide) r2 code2))
  · have r2 := own_below h.rooms b2 (Nat.le_refl _)
    exact hset (r2.kept hg (own_apart (by decide) r2 code2))
  · rw [List.length_append, List.length_singleton]
    exact (List.getElem?_eq_some_iff.1 hc).1
/-- One state more. -/
theorem N1.room {W0 W w1 wa : World} {kb m : Nat} {p : PD} {sv cv rv rv' : Value} {us : List Value} (h : N1 W0 W kb p sv cv rv us m) (b1 : Below W.heap.size W w1)
    (hg : (w1.alloc (.cells #[.int .i64 0, .int .i64 0, .int .i64 0, .int .i64 0, .int .i64 0, .int .i64 0, .int .i64 0, .bool false] 73)).grownBy wa rv.ownBlock) (hown : wa.ownsRow W0.heap.size 73 8 rv' (m + 1) (stCells (List.replicate m stNew) ++ [.int .i64 0, .int .i64 0, .int .i64 0, .int .i64 0, .int .i64 0, .int .i64 0, .int .i64 0, .bool false])) : N1 W0 (wa.setCell ⟨kb, 3, none⟩ rv') kb p sv cv rv' us (m + 1) := by
  have b2 : Below W.heap.size W (w1.alloc (.cells #[.int .i64 0, .int .i64 0, .int .i64 0, .int .i64 0, .int .i64 0, .int .i64 0, .int .i64 0, .bool false] 73)) := b1.alloc b1.size _
  have hs := h.tk.size
  have hcr : ∀ k, rv.ownBlock = some k → W0.heap.size ≤ k := fun k hk => (h.rooms.lt k hk).1
  have room2 := own_below h.rooms b2 (Nat.le_refl _)
  have hset : ∀ {e : TypeId} {size : Nat} {v : Value} {n : Nat} {xs : List Value}, wa.ownsRow W0.heap.size e size v n xs → (wa.setCell ⟨kb, 3, none⟩ rv').ownsRow W0.heap.size e size v n xs := fun hx => ownsRow_setCell_below hx (a := ⟨kb, 3, none⟩) h.kl rv'
  refine ⟨(h.tk.grow b2 hg hcr).trans (KTouch.set _ (by simp) 3 _), h.kl, GB.rooms (rv := rv) ?_ rv', ?_, fun i x d hx hd => ?_, ?_, h.len⟩
  · have hlt : kb < W.heap.size := Nat.lt_of_lt_of_le h.kl hs
    have h1 := b2.size
    exact (hg.block kb (by omega) (fun e => by have := hcr kb e.symm; have := h.kl; omega)).trans ((b2.block kb hlt).trans h.blk)
  · have r2 := own_below h.code b2 (Nat.le_refl _)
    exact hset (r2.kept hg (own_apart (by decide) r2 room2))
  · have r2 := own_below (h.rows i x d hx hd) b2 (Nat.le_refl _)
    exact hset (r2.kept hg (own_apart (by decide) r2 room2))
  · rw [List.replicate_succ', stCells_snoc]
    exact hset hown
/-- A pointer to a line. -/
def glP (b : Nat) : Value := .pointer (some ⟨b, 0, none⟩)
theorem infoGL : (Tryz.prog.info? 90).map (fun i => (i.zero, i.size, i.bytes)) = some (some (.pointer none), 1, 8) := by kernel_rfl
/-- Lines are being made. -/
structure N2 (W1 W : World) (kb : Nat) (p : PD) (cv sv rv lv : Value) (bs : List Nat) : Prop where
  tk : KTouch [kb] W1 W
  kl : kb < W1.heap.size
  blk : GB W kb cv p.ticks sv rv lv
  row : W.ownsRow W1.heap.size 90 1 lv bs.length (bs.map glP)
  line : ∀ (i : Nat) b x, bs[i]? = some b → p.wires[i]? = some x → LnC W b x.2.2.1 x.2.2.2 0 (.slice none 0 0)
  ge : ∀ b ∈ bs, W1.heap.size ≤ b ∧ b < W.heap.size
  ne : ∀ b ∈ bs, lv.ownBlock ≠ some b
  two : ∀ (i j : Nat) b b', i < j → bs[i]? = some b → bs[j]? = some b' → b < b'
  len : bs.length ≤ p.wires.length
theorem N2.first {W1 : World} {kb : Nat} {p : PD} {cv sv rv : Value} (hk : kb < W1.heap.size) (h : GB W1 kb cv p.ticks sv rv (.slice none 0 0)) : N2 W1 W1 kb p cv sv rv (.slice none 0 0) [] :=
  ⟨KTouch.refl _ _, hk, h, World.ownsRow_nil _ _ _ _, fun i b x hi => (by simp at hi), fun b hb => (by cases hb), fun b hb => (by cases hb), fun i j b b' _ hi => (by simp at hi), Nat.zero_le _⟩
/-- One line more. -/
theorem N2.more {W1 W w1 wa : World} {kb b : Nat} {p : PD} {cv sv rv lv lv' : Value} {bs : List Nat} {x : W4} (h : N2 W1 W kb p cv sv rv lv bs) (hx : p.wires[bs.length]? = some x) (b1 : Below W.heap.size W w1) (hb : W.heap.size ≤ b ∧ b < w1.heap.size) (hl : LnC w1 b x.2.2.1 x.2.2.2 0 (.slice none 0 0))
    (hg : (w1.alloc (.cells #[glP b] 90)).grownBy wa lv.ownBlock) (hown : wa.ownsRow W1.heap.size 90 1 lv' (bs.length + 1) (bs.map glP ++ [glP b])) (hnew : ∀ k, lv'.ownBlock = some k → lv.ownBlock = some k ∨ w1.heap.size + 1 ≤ k) : N2 W1 (wa.setCell ⟨kb, 4, none⟩ lv') kb p cv sv rv lv' (bs ++ [b]) := by
  have b2 : Below W.heap.size W (w1.alloc (.cells #[glP b] 90)) := b1.alloc b1.size _
  have hs := h.tk.size
  have hcr : ∀ k, lv.ownBlock = some k → W1.heap.size ≤ k ∧ k < W.heap.size := fun k hk => h.row.lt k hk
  have hsz : (w1.alloc (.cells #[glP b] 90)).heap.size = w1.heap.size + 1 := by simp
  have hwa := hg.size
  rw [hsz] at hwa
  have h1s := b1.size
  have hset : ∀ k, k ≠ kb → (wa.setCell ⟨kb, 4, none⟩ lv').heap[k]? = wa.heap[k]? := fun k hk => Below.heap_setCell _ _ _ _ hk
  have hsz2 : (wa.setCell ⟨kb, 4, none⟩ lv').heap.size = wa.heap.size := by simp
  have hkb := h.kl
  have hold : ∀ k, k < W.heap.size → k ≠ kb → lv.ownBlock ≠ some k → (wa.setCell ⟨kb, 4, none⟩ lv').heap[k]? = W.heap[k]? := fun k h2 h3 h4 => (hset k h3).trans ((hg.block k (by rw [hsz]; omega) (fun e => h4 e.symm)).trans (b2.block k h2))
  refine ⟨(h.tk.grow b2 hg (fun k hk => (hcr k hk).1)).trans (KTouch.set _ (by simp) 4 _), h.kl, GB.lines (lv := lv) ?_ lv', ?_, fun i c y hi hy => ?_, fun c hc => ?_, fun c hc => ?_, fun i j c c' hij hi hj => ?_, ?_⟩
  · have hlt : kb < W.heap.size := Nat.lt_of_lt_of_le h.kl hs
    exact (hg.block kb (by rw [hsz]; omega) (fun e => by have := (hcr kb e.symm).1; omega)).trans ((b2.block kb hlt).trans h.blk)
  · rw [List.map_append, List.length_append]
    exact ownsRow_setCell_below hown (a := ⟨kb, 4, none⟩) h.kl lv'
  · by_cases hil : i < bs.length
    · rw [List.getElem?_append_left hil] at hi
      have hm := List.mem_of_getElem? hi
      have hge := h.ge c hm
      exact (h.line i c y hi hy).block (hold c hge.2 (by omega) (h.ne c hm))
    · have hlt := (List.getElem?_eq_some_iff.1 hi).1
      rw [List.length_append, List.length_singleton] at hlt
      obtain rfl : i = bs.length := by omega
      rw [List.getElem?_append_right (Nat.le_refl _), Nat.sub_self] at hi
      simp only [List.getElem?_cons_zero, Option.some.injEq] at hi
      subst hi
      rw [hx] at hy
      obtain rfl := Option.some.inj hy
      refine hl.block ((hset b (by omega)).trans ((hg.block b (by rw [hsz]; omega) (fun e => by have := (hcr b e.symm).2; omega)).trans ?_))
      exact Below.heap_alloc _ _ _ hb.2
  · rcases List.mem_append.1 hc with hc | hc
    · have := h.ge c hc
      rw [hsz2]
      omega
    · rw [List.mem_singleton] at hc
      subst hc
      rw [hsz2]
      omega
  · intro e
    rcases List.mem_append.1 hc with hc | hc
    · have hge := h.ge c hc
      rcases hnew c e with h2 | h2
      · exact h.ne c hc h2
      · omega
    · rw [List.mem_singleton] at hc
      subst hc
      rcases hnew c e with h2 | h2
      · have := (hcr c h2).2
        omega
      · omega
  · by_cases hjl : j < bs.length
    · rw [List.getElem?_append_left hjl] at hj
      rw [List.getElem?_append_left (by omega)] at hi
      exact h.two i j c c' hij hi hj
    · have hlt := (List.getElem?_eq_some_iff.1 hj).1
      rw [List.length_append, List.length_singleton] at hlt
      obtain rfl : j = bs.length := by omega
      rw [List.getElem?_append_right (Nat.le_refl _), Nat.sub_self] at hj
      simp only [List.getElem?_cons_zero, Option.some.injEq] at hj
      subst hj
      rw [List.getElem?_append_left (by omega)] at hi
      have := h.ge c (List.mem_of_getElem? hi)
      omega
  · rw [List.length_append, List.length_singleton]
    exact (List.getElem?_eq_some_iff.1 hx).1
/-- Code in rows of its own can be read. -/
theorem gcds_own {w : World} {base : Nat} {cv : Value} {us : List Value} {cs : List (List O3)} (h : w.ownsRow base 29 1 cv us.length us) (hl : us.length = cs.length) (hr : ∀ (i : Nat) u c, us[i]? = some u → cs[i]? = some c → Ops w u c) : Cds w cv cs := by
  have hlt := h.lt
  have hcs := @World.ownsRow.cells _ _ _ _ _ _ _ h
  rcases h.2 with ⟨rfl, h0⟩ | ⟨g, cap, cur, rfl, _, _, hcap, _⟩
  · exact Or.inl ⟨List.eq_nil_of_length_eq_zero (by omega), _, _, rfl⟩
  · refine Or.inr ⟨g, 0, cap, by rw [hl], by omega, (hlt g rfl).2, fun i c hi => ?_⟩
    have hil : i < us.length := by rw [hl]; exact (List.getElem?_eq_some_iff.1 hi).1
    have hu : us[i]? = some us[i] := List.getElem?_eq_getElem hil
    have := hcs rfl i _ hu
    rw [Addr.add_lit] at this
    exact ⟨_, this, hr i _ c hu hi⟩
theorem ofOwn {v : Value} {g : Nat} (h : g ∈ v.ownBlock.toList) : v.ownBlock = some g := by simpa using h
/-- All is there: a kernel. -/
theorem N2.done {w W0 W1 W : World} {kb : Nat} {p : PD} {cv sv rv lv : Value} {us : List Value} {bs : List Nat} (hw0 : w.heap.size + 1 ≤ kb) (hsp : W0.ownsRow (w.heap.size + 1) 82 3 sv p.spans.length (spCells p.spans)) (hspk : ∀ g, sv.ownBlock = some g → g ≠ kb)
    (h1 : N1 W0 W1 kb p sv cv rv us us.length) (h2 : N2 W1 W kb p cv sv rv lv bs) (hp : plchk p = 0) (hul : us.length = p.code.length) (hbl : bs.length = p.wires.length) : ∃ a : GW, GK W w.heap.size p (newK p) kb a := by
  obtain ⟨c0, c1, c2, c3, c4, c5⟩ := h2.blk.cs
  have hne0 := (plchk_zero hp).2.1
  have hk0 := h1.kl
  have hs1 := h1.tk.size
  have hs2 := h2.tk.size
  obtain ⟨rb, rcap, cur, rfl, hrb0, hrb1, hrb2, hrb3, hrb4, hrb5⟩ : ∃ g cap cur, rv = .slice (some ⟨g, 0, none⟩) us.length cap ∧ W0.heap.size ≤ g ∧ W1.heap[g]? = some (.cells cur 73 (0, 0)) ∧ us.length ≤ cap ∧ cap ≤ maxLen ∧ cur.size = cap * 8 ∧ cur.toList.take (us.length * 8) = stCells (List.replicate us.length stNew) := by
    rcases h1.rooms.2 with ⟨_, h0⟩ | hq
    · omega
    · exact hq
  have hrlt := (h1.rooms.lt rb rfl).2
  have hkeep : ∀ k, k < W1.heap.size → k ≠ kb → W.heap[k]? = W1.heap[k]? := fun k h3 h4 => h2.tk.block k h3 (by simpa using h4)
  have hsp1 : W1.ownsRow (w.heap.size + 1) 82 3 sv p.spans.length (spCells p.spans) := own_block hsp (fun k hk => h1.tk.block k (hsp.lt k hk).2 (by simpa using hspk k hk))
  have hspW : W.ownsRow (w.heap.size + 1) 82 3 sv p.spans.length (spCells p.spans) := own_block hsp1 (fun k hk => hkeep k (hsp1.lt k hk).2 (hspk k hk))
  have hcW : W.ownsRow W0.heap.size 29 1 cv us.length us := own_block h1.code (fun k hk => hkeep k (h1.code.lt k hk).2 (by have := (h1.code.lt k hk).1; omega))
  have hrW : ∀ (i : Nat) u c, us[i]? = some u → p.code[i]? = some c → W.ownsRow W0.heap.size 28 3 u c.length (spCells c) := fun i u c hu hc => own_block (h1.rows i u c hu hc) (fun k hk => hkeep k ((h1.rows i u c hu hc).lt k hk).2 (by have := ((h1.rows i u c hu hc).lt k hk).1; omega))
  have hsW : W.ownsRow W0.heap.size 73 8 (.slice (some ⟨rb, 0, none⟩) us.length rcap) us.length (stCells (List.replicate us.length stNew)) := own_block h1.rooms (fun k hk => hkeep k (h1.rooms.lt k hk).2 (by have := (h1.rooms.lt k hk).1; omega))
  have hat : ∀ (i : Nat) u, us[i]? = some u → ∃ c, p.code[i]? = some c := fun i u hu => ⟨_, List.getElem?_eq_getElem (by rw [← hul]; exact (List.getElem?_eq_some_iff.1 hu).1)⟩
  have hF0 : ∀ g ∈ sv.ownBlock.toList ++ (cv.ownBlock.toList ++ us.filterMap Value.ownBlock), w.heap.size + 1 ≤ g ∧ g < W1.heap.size ∧ g ≠ kb ∧ g ≠ rb := fun g hg => by
    rcases List.mem_append.1 hg with hg | hg
    · have e := ofOwn hg
      have hl := hsp.lt g e
      have hl1 := hsp1.lt g e
      exact ⟨hl.1, hl1.2, hspk g e, fun e2 => by have := hl.2; omega⟩
    · rcases List.mem_append.1 hg with hg | hg
      · have e := ofOwn hg
        have hl := h1.code.lt g e
        refine ⟨by omega, hl.2, by omega, fun e2 => ?_⟩
        rcases own_apart (by decide) h1.code h1.rooms with h3 | h3
        · rw [h3] at e; cases e
        · exact h3 (by rw [e, e2]; rfl)
      · obtain ⟨u, hu, e⟩ := List.mem_filterMap.1 hg
        obtain ⟨i, hi⟩ := List.mem_iff_getElem?.1 hu
        obtain ⟨c, hc⟩ := hat i u hi
        have hr := h1.rows i u c hi hc
        have hl := hr.lt g e
        refine ⟨by omega, hl.2, by omega, fun e2 => ?_⟩
        rcases own_apart (by decide) hr h1.rooms with h3 | h3
        · rw [h3] at e; cases e
        · exact h3 (by rw [e, e2]; rfl)
  have hlv : (p.wires = [] ∧ lv = .slice none 0 0) ∨ ∃ g cap, lv = .slice (some ⟨g, 0, none⟩) p.wires.length cap ∧ p.wires.length ≤ cap ∧ W1.heap.size ≤ g ∧ g < W.heap.size ∧ (∀ (i : Nat) b, bs[i]? = some b → W.cell? ⟨g, i, none⟩ = some (glP b)) := by
    rcases h2.row.2 with ⟨h3, h4⟩ | ⟨g, cap, cur, h3, h4, h5, h6, h7, h8, h9⟩
    · exact Or.inl ⟨List.length_eq_zero_iff.1 (by omega), h3⟩
    · refine Or.inr ⟨g, cap, by rw [h3, hbl], by omega, h4, (Array.getElem?_eq_some_iff.1 h5).1, fun i b hi => ?_⟩
      have := h2.row
      rw [h3] at this
      exact (own_cap this).2.2.2.2.1 i _ (by simp [hi])
  obtain ⟨lr, hl1, hl2, hl3, hl4, hl5⟩ : ∃ lr, ((p.wires = [] ∧ lv = .slice none 0 0) ∨ ∃ cap, lv = .slice (some ⟨lr, 0, none⟩) p.wires.length cap ∧ p.wires.length ≤ cap) ∧ (∀ (i : Nat) b, bs[i]? = some b → W.cell? ⟨lr, i, none⟩ = some (glP b)) ∧ lr < W.heap.size ∧ (∀ b ∈ bs, b ≠ lr) ∧ (lr = w.heap.size ∨ W1.heap.size ≤ lr) := by
    rcases hlv with ⟨h3, h4⟩ | ⟨g, cap, h3, h4, h5, h6, h7⟩
    · have hb0 : bs = [] := List.length_eq_zero_iff.1 (by rw [hbl, h3]; rfl)
      subst hb0
      exact ⟨w.heap.size, Or.inl ⟨h3, h4⟩, fun i b hi => (by simp at hi), (by omega), fun b hb => (by cases hb), Or.inl rfl⟩
    · exact ⟨g, Or.inr ⟨cap, h3, h4⟩, h7, h6, fun b hb e => h2.ne b hb (by rw [h3, e]; rfl), Or.inr h5⟩
  have hdf : ∀ g ∈ DF lr bs (bs.map fun _ => Value.slice none 0 0), g = w.heap.size ∨ W1.heap.size ≤ g := fun g hg => by
    unfold DF at hg
    rcases List.mem_cons.1 hg with e | e
    · rw [e]; exact hl5
    · rcases List.mem_append.1 e with e | e
      · exact Or.inr (h2.ge g e).1
      · obtain ⟨u, hu, e2⟩ := List.mem_filterMap.1 e
        obtain ⟨_, _, rfl⟩ := List.mem_map.1 hu
        simp [Value.ownBlock] at e2
  have hdg : ∀ g ∈ DF lr bs (bs.map fun _ => Value.slice none 0 0), w.heap.size ≤ g := fun g hg => by
    rcases hdf g hg with e | e <;> omega
  refine ⟨⟨cv, sv, sv.ownBlock.toList ++ (cv.ownBlock.toList ++ us.filterMap Value.ownBlock), rb, rcap, lv, lr, W.heap.size, bs, bs.map fun _ => .slice none 0 0⟩, c0, c1, c2, ?_, c4, c5, h2.blk.free 5, h2.blk.free 2, fun w' hs hb => ⟨?_, ?_⟩, fun i s hs => ?_, fun o => ?_, ⟨?_, fun i b hi => hl2 i b hi, by simpa [newK] using hbl, by simpa [newK] using hbl, fun i l b u h3 h4 h5 => ?_, ⟨hl3, fun b hb => (h2.ge b hb).2⟩, Nat.le_refl _, hl4, fun i j b b' hij hi hj => Nat.ne_of_lt (h2.two i j b b' hij hi hj), fun i j u u' _ hi _ g hg => ?_⟩, fun g hg => ?_, ⟨?_, ?_, fun g hg => ?_⟩, ⟨?_, fun hm => ?_, fun hm => ?_⟩, ⟨fun hm => (hF0 kb hm).2.2.1 rfl, fun hm => (hF0 rb hm).2.2.2 rfl, fun g hg hm => ?_⟩⟩
  · simp only [newK, List.length_map]
    rw [← hul]
    exact c3
  · exact gcds_own (own_block hcW (fun k hk => hb k (by simp [hk]))) hul (fun i u c hu hc => gops_own (own_block (hrW i u c hu hc) (fun k hk => hb k (List.mem_append_right _ (List.mem_append_right _ (List.mem_filterMap.2 ⟨u, List.mem_of_getElem? hu, hk⟩))))))
  · exact sps_of_own (own_block hspW (fun k hk => hb k (by simp [hk])))
  · have hlt := (List.getElem?_eq_some_iff.1 hs).1
    simp only [newK, List.length_map] at hlt
    simp only [newK, List.getElem?_map, List.getElem?_eq_getElem hlt, Option.map_some, Option.some.injEq] at hs
    subst hs
    have hcs : ∀ j u, (stCells (List.replicate us.length stNew))[j]? = some u → W.cell? ⟨rb, j, none⟩ = some u := fun j u hu => by
      have := hsW.cells (g := rb) rfl j u hu
      rwa [Addr.add_lit, Nat.zero_add] at this
    obtain ⟨q0, q1, q2, q3, q4, q5, q6, q7⟩ := stCells_at (List.replicate us.length stNew) i stNew (by rw [List.getElem?_replicate, if_pos (by omega)])
    exact ⟨hcs _ _ q0, hcs _ _ q1, hcs _ _ q2, hcs _ _ q3, hcs _ _ q4, hcs _ _ q5, hcs _ _ q6, hcs _ _ q7⟩
  · have e : W.heap[rb]? = _ := (hkeep rb hrlt (by omega)).trans hrb1
    simp [World.frozen?, e]
  · rcases hl1 with ⟨h3, h4⟩ | ⟨cap, h3, h4⟩
    · exact Or.inl ⟨by simp [newK, h3], h4⟩
    · exact Or.inr ⟨cap, by simpa [newK] using h3, by simpa [newK] using h4⟩
  · simp only [newK, List.getElem?_map, Option.map_eq_some_iff] at h3
    obtain ⟨x, hx, rfl⟩ := h3
    simp only [List.getElem?_map, Option.map_eq_some_iff] at h5
    obtain ⟨_, _, rfl⟩ := h5
    exact ⟨h2.line i b x h4 hx, World.ownsRow_nil _ _ _ _, (h2.ge b (List.mem_of_getElem? h4)).2, Nat.le_refl _⟩
  · simp only [List.getElem?_map, Option.map_eq_some_iff] at hi
    obtain ⟨_, _, rfl⟩ := hi
    simp [Value.ownBlock] at hg
  · unfold GW.F at hg
    simp only [List.mem_cons] at hg
    rcases hg with e | e | e
    · omega
    · omega
    · rcases List.mem_append.1 e with e | e
      · have := (hF0 g e).1
        omega
      · exact hdg g e
  · omega
  · show rb < W.heap.size
    omega
  · have := (hF0 g hg).2.1
    omega
  · show kb ≠ rb
    omega
  · rcases hdf kb hm with e | e <;> omega
  · rcases hdf rb hm with e | e <;> omega
  · have h3 := hF0 g hg
    rcases hdf g hm with e | e <;> omega
end Go.Proofs.YtajfgmlockjmhaiGreatDoor
namespace Go.Proofs.YtajfgmlockjmhaiGreatDoor
open Go.RowKit

set_option maxRecDepth 100000 in
set_option maxHeartbeats 4000000 in
theorem flcheck_any (l : List W4) (v : Value) (w : World) (hl : Wrs w v l) :
    Calls Tryz.prog 62 #[v] w fun e w' => e = .returned (.tuple #[.int .i64 (wschk l).1, wErr (wschk l).2]) ∧ Below w.heap.size w w' := by
  obtain ⟨ao, cap, rfl⟩ := hl.form
  have HL : Hid (Wrs w (.slice ao l.length cap) l) := hl
  clear hl
  by_cases h12 : 12 < l.length
  · have h12i : (12 : Int) < (l.length : Int) := by omega
    have HF : Hid (wschk l = (0, 4)) := by show _ = _; unfold wschk; rw [if_pos h12]
    go_enter Tryz.func62, Tryz.ntmps62
    go_wp2
    go_ret2
    rw [HF.out]
    exact ⟨rfl, Below.refl _ _⟩
  · have h12i : decide ((12 : Int) < (l.length : Int)) = false := by simp; omega
    have h12n : decide (12 < l.length) = false := by simp; omega
    have HW : Hid (wschk l = wscan l 0) := by show _ = _; unfold wschk; rw [if_neg h12]
    go_enter Tryz.func62, Tryz.ntmps62
    go_wp2
    go_loopw [13] (fun i wr => ∃ k : Nat, k ≤ l.length ∧ i = .int .i64 k ∧ Hid (∀ j y, j < k → l[j]? = some y → w4chk y = 0) ∧ Below w.heap.size w wr) (fun i _ => l.length - (intOf i).toNat)
    case atStart => exact ⟨0, Nat.zero_le _, rfl, fun j y hj => by omega, Below.refl _ _⟩
    case round =>
      obtain ⟨k, hk, rfl, HS, hb⟩ := hrel
      by_cases hkl : k < l.length
      · have hki : (k : Int) < (l.length : Int) := by omega
        obtain ⟨b, off, f, t, kd, d, rfl, hlt, hx, c0, c1, c2, c3⟩ := HL.out.at hkl
        have HX : Hid (l[k]? = some (f, t, kd, d)) := hx
        replace c0 := (hb.cell (p := ⟨b, _, none⟩) hlt).trans c0
        replace c1 := (hb.cell (p := ⟨b, _, none⟩) hlt).trans c1
        replace c2 := (hb.cell (p := ⟨b, _, none⟩) hlt).trans c2
        replace c3 := (hb.cell (p := ⟨b, _, none⟩) hlt).trans c3
        have hc := fun W => wcheck_any f t kd d W
        clear hx
        unfold wV at hc
        by_cases hz : wchk f t kd d = 0
        · have HZ : Hid (w4chk (f, t, kd, d) = 0) := hz
          rw [hz] at hc
          rw [show wErr 0 = .nilIface from rfl] at hc
          clear hz
          go_wp2_with (go_at_call 65; refine (hc _).mono ?_; rintro e w1 ⟨rfl, b1⟩; clear hc)
          go_roundw
          case rel =>
            refine ⟨k + 1, by omega, by go_num, fun j y hj hy => ?_, ?_⟩
            · by_cases hjk : j < k
              · exact HS.out j y hjk hy
              · obtain rfl : j = k := by omega
                rw [HX.out] at hy
                obtain rfl := Option.some.inj hy
                exact HZ.out
            · exact (hb.alloc hb.size _).trans (b1.mono (by have := hb.size; simp; omega))
          case measure => simp [intOf]; omega
        · have HF : Hid (wschk l = ((k : Int), wchk f t kd d)) := by
            show _ = _
            rw [HW.out, wscan_hit HS.out HX.out hz]
            rfl
          rw [wErr_not hz] at hc
          have HE : Hid (wErr (wchk f t kd d) = .iface 93 (.int .i64 (wchk f t kd d))) := wErr_not hz
          obtain ⟨q, hq⟩ : ∃ q, q = wchk f t kd d := ⟨_, rfl⟩
          rw [← hq] at hc hz HF HE
          clear hq HW
          go_wp2_with (go_at_call 65; refine (hc _).mono ?_; rintro e w1 ⟨rfl, b1⟩; clear hc)
          go_ret2
          rw [HF.out, HE.out]
          exact ⟨rfl, (hb.alloc hb.size _).trans (b1.mono (by have := hb.size; simp; omega))⟩
      · have hki : decide ((k : Int) < (l.length : Int)) = false := by simp; omega
        have hkn : decide (k < l.length) = false := by simp; omega
        have HF : Hid (wschk l = (0, 0)) := by
          show _ = _
          rw [HW.out]
          exact wscan_none (fun j y hj hy => HS.out j y (by omega) hy)
        clear HW
        go_wp2
        go_ret2
        rw [HF.out]
        exact ⟨rfl, hb⟩
end Go.Proofs.YtajfgmlockjmhaiGreatDoor
namespace Go.Proofs.YtajfgmlockjmhaiGreatDoor
open Go.RowKit

set_option maxRecDepth 100000 in
set_option maxHeartbeats 2000000 in
theorem wcon_idx (v : Value) (xs : List Int) (w : World) (hx : xs.length ≤ 2000000000000) (h : Rd w v xs) :
    Calls Tryz.prog 160 #[v, .func (.func 153) #[] #[]] w fun e w' => (∃ r : Int, e = .returned (.int .i64 r) ∧ decide (0 ≤ r) = xs.any woutB) ∧ w' = w := by
  rcases h with ⟨rfl, ao, cap, rfl⟩ | ⟨b, off, cap, rfl, _, _, h2, hc⟩
  · go_enter Tryz.func160, Tryz.ntmps160
    go_wp2
    refine wp_loop_rounds 1 ?_
    rw [rounds_succ]
    go_wp2
    go_ret
    exact ⟨⟨_, rfl, rfl⟩, rfl⟩
  have HC : Hid (∀ (i : Nat) y, xs[i]? = some y → w.cell? ⟨b, off + i, none⟩ = some (.int .i64 y)) := hc
  clear hc
  go_enter Tryz.func160, Tryz.ntmps160
  go_wp2
  go_loopw [8] (fun i wr => ∃ k : Nat, k ≤ xs.length ∧ i = .int .i64 k ∧ (∀ (j : Nat) y, j < k → xs[j]? = some y → woutB y = false) ∧ wr = w) (fun i _ => xs.length - (intOf i).toNat)
  case atStart => exact ⟨0, Nat.zero_le _, rfl, fun j y hj => by omega, rfl⟩
  case round =>
    obtain ⟨k, hk, rfl, hall, hwr⟩ := hrel
    subst wr
    have Hall : Hid (∀ (j : Nat) y, j < k → xs[j]? = some y → woutB y = false) := hall
    clear hall
    by_cases hkl : k < xs.length
    · have hki : (k : Int) < (xs.length : Int) := by omega
      obtain ⟨y, hy⟩ : ∃ y, xs[k]? = some y := ⟨xs[k], List.getElem?_eq_getElem hkl⟩
      have d0 := HC.out k y hy
      have HY : Hid (xs[k]? = some y) := hy
      clear hy
      have ho := wout_any y w
      cases hxy : woutB y with
      | false =>
        rw [hxy] at ho
        go_wp2_with (go_at_call 153; refine ho.mono ?_; rintro e w1 ⟨rfl, hw1⟩; subst w1; clear ho)
        go_roundw
        case rel =>
          refine ⟨k + 1, by omega, by go_num, fun j z hj hz => ?_, by trivial⟩
          by_cases hjk : j < k
          · exact Hall.out j z hjk hz
          · obtain rfl : j = k := by omega
            rw [HY.out] at hz
            obtain rfl := Option.some.inj hz
            exact hxy
        case measure => simp [intOf]; omega
      | true =>
        rw [hxy] at ho
        have HF : Hid (xs.any woutB = true) := by
          show _ = _
          rw [List.any_eq_true]
          exact ⟨y, List.mem_of_getElem? HY.out, hxy⟩
        go_wp2_with (go_at_call 153; refine ho.mono ?_; rintro e w1 ⟨rfl, hw1⟩; subst w1; clear ho)
        go_ret
        exact ⟨⟨_, rfl, by rw [HF.out]; simp⟩, rfl⟩
    · have hki : decide ((k : Int) < (xs.length : Int)) = false := decide_eq_false (by omega)
      have hki' : decide (k < xs.length) = false := decide_eq_false (by omega)
      have HF : Hid (xs.any woutB = false) := by
        show _ = _
        rw [List.any_eq_false]
        intro y hy
        obtain ⟨j, hj⟩ := List.mem_iff_getElem?.1 hy
        have := Hall.out j y (by have := (List.getElem?_eq_some_iff.1 hj).1; omega) hj
        rw [this]
        decide
      go_wp2
      go_ret
      exact ⟨⟨_, rfl, by rw [HF.out]; decide⟩, rfl⟩
set_option maxRecDepth 100000 in
set_option maxHeartbeats 2000000 in
theorem wcon_any (v : Value) (xs : List Int) (w : World) (hx : xs.length ≤ 2000000000000) (h : Rd w v xs) :
    Calls Tryz.prog 143 #[v, .func (.func 153) #[] #[]] w fun e w' => e = .returned (.bool (xs.any woutB)) ∧ w' = w := by
  have h := wcon_idx v xs w hx h
  obtain ⟨r, hr⟩ : ∃ r, r = xs.any woutB := ⟨_, rfl⟩
  rw [← hr] at h ⊢
  clear hr
  go_enter Tryz.func143, Tryz.ntmps143
  go_wp2_with (go_at_call 160; refine h.mono ?_; rintro e w1 ⟨⟨q, rfl, hq⟩, hw1⟩; subst w1; clear h)
  go_ret
  exact ⟨rfl, rfl⟩
end Go.Proofs.YtajfgmlockjmhaiGreatDoor
