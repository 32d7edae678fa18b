/-
  StFz, SuM, St8, SuHas, SupCW, SgtMath, PurgeM, CareM, CarN, CrKern, TwM, CarEv, SuCon, SuUntil, TopOne, TpWaits, SuOf: joined into one text.
-/
import Derived.Test.YtfconbblnmbnpahGreatDoorJc2
import Derived.Test.YtfconbblnmbnpahGreatDoorJc1
import Derived.Test.YtfconbblnmbnpahGreatDoorJc10
import Derived.Deep.CutRange
import Derived.Deep.RegionWith
import Derived.BigQuiet
import Derived.RangeFuncNested
import Derived.Test.YtfconbblnmbnpahGreatDoorJc3
import Derived.Test.YtfconbblnmbnpahGreatDoorJc6
namespace Go.Proofs.YtfconbblnmbnpahGreatDoor
open Go.RowKit

theorem stb_fz {w : World} {b : Nat} {s : St} (h : StB w b s) (o : Nat) : w.frozen? ⟨b, o, none⟩ = false := by
  have e : w.heap[b]? = _ := h
  simp [World.frozen?, e]
end Go.Proofs.YtfconbblnmbnpahGreatDoor
namespace Go.Proofs.YtfconbblnmbnpahGreatDoor

/-- A span of a room has a tick. -/
def mine (r t : Int) (s : S3) : Bool := decide (s.2.2 = r ∧ s.1 ≤ t ∧ t < s.2.1)
theorem hold_first {l : List S3} {t : Int} : ∀ {k : Nat} {s : S3}, l[k]? = some s → hits t s = true → (∀ (j : Nat) x, j < k → l[j]? = some x → hits t x = false) → hold l t = s.2.2 := by
  induction l with
  | nil => intro k s h; simp at h
  | cons x l ih =>
    intro k s h hs ha
    cases k with
    | zero =>
      simp at h
      subst h
      unfold hold
      rw [if_pos hs]
    | succ k =>
      unfold hold
      rw [if_neg (by rw [ha 0 x (by omega) rfl]; simp)]
      exact ih (by simpa using h) hs fun j y hj hy => ha (j + 1) y (by omega) (by simpa using hy)
/-- Of a right frame two spans that have one tick are one. -/
theorem any_mine {n : Int} {l : List S3} (h : (fchk n l).2 = 0) {r t : Int} (hr : 0 ≤ r) : l.any (mine r t) = decide (hold l t = r) := by
  have hz := fchk_zero h
  rw [fchk_mid (by omega) (by omega)] at h
  have hall := scan_all h
  have hcl : ∀ (i j : Nat) (s o : S3), j < i → l[i]? = some s → l[j]? = some o → hits t s = true → hits t o = false := fun i j s o hji hi hj hs => by
    have h0 := hall i (Nat.zero_le _) (by have := (List.getElem?_eq_some_iff.1 hi).1; omega)
    rw [badAt_some hi] at h0
    unfold badOf at h0
    split at h0
    · split at h0
      · simp at h0
      · rename_i hc
        rw [Bool.not_eq_true, List.any_eq_false] at hc
        have hm : o ∈ l.take i := List.mem_of_getElem? (i := j) (by rw [List.getElem?_take, if_pos hji]; exact hj)
        have hcc := hc o hm
        cases ho : hits t o with
        | false => rfl
        | true =>
          simp only [hits, decide_eq_true_eq] at hs ho
          simp only [clashB, decide_eq_true_eq] at hcc
          omega
    · simp at h0
  cases ha : l.any (mine r t) with
  | true =>
    obtain ⟨s, hs, hm⟩ := List.any_eq_true.1 ha
    obtain ⟨i, hi⟩ := List.mem_iff_getElem?.1 hs
    simp only [mine, decide_eq_true_eq] at hm
    have hh : hits t s = true := by simp [hits]; omega
    rw [hold_first hi hh fun j x hj hx => hcl i j s x hj hi hx hh, hm.1]
    simp
  | false =>
    rw [List.any_eq_false] at ha
    symm
    rw [decide_eq_false_iff_not]
    intro he
    cases hf : l.findIdx? (hits t) with
    | none => rw [hold_none hf] at he; omega
    | some k =>
      obtain ⟨hk, hk2, _⟩ := List.findIdx?_eq_some_iff_getElem.1 hf
      rw [hold_some hf (List.getElem?_eq_getElem hk)] at he
      have := ha l[k] (List.getElem_mem _)
      simp only [hits, decide_eq_true_eq] at hk2
      simp only [mine, decide_eq_true_eq] at this
      omega
theorem per_mod {P : Nat → Bool} {n : Nat} (hp : ∀ t, P (t + n) = P t) (t : Nat) : P (t % n) = P t := by
  have go : ∀ q r, P (r + q * n) = P r := by
    intro q
    induction q with
    | zero => intro r; simp
    | succ q ih => intro r; rw [show r + (q + 1) * n = (r + q * n) + n by rw [Nat.add_mul]; omega, hp, ih]
  have h := go (t / n) (t % n)
  rw [Nat.mod_add_div'] at h
  exact h.symm
theorem hasT_row {n : Nat} {l : List S3} {r : Int} (h : (fchk n l).2 = 0) (hr : 0 ≤ r) {t : Nat} (ht : t < n) : l.any (mine r t) = hasT n l r t := by
  rw [any_mine h hr]
  unfold hasT
  rw [show (t : Int) % (n : Int) = (t : Int) by rw [← Int.natCast_emod, Nat.mod_eq_of_lt ht]]
/-- Some tick of a frame. -/
theorem cn_zero {P : Nat → Bool} (f : Nat) : ∀ m, cnR P f m = 0 ↔ ∀ j, j < m → P (f + j) = false
  | 0 => by simp [cnR]
  | m + 1 => by
    have ih := cn_zero (P := P) f m
    unfold cnR
    constructor
    · intro h j hj
      cases hp : P (f + m) with
      | true => rw [hp, if_pos rfl] at h; omega
      | false =>
        rw [hp, if_neg (by simp), Nat.add_zero] at h
        by_cases e : j = m
        · subst e; exact hp
        · exact ih.1 h j (by omega)
    · intro h
      rw [ih.2 fun j hj => h j (by omega), h m (by omega)]
      simp
/-- The least so far. -/
def lsM (P : Nat → Bool) (m : Nat) : Nat → Nat
  | 0 => m
  | k + 1 => min (lsM P m k) (cnR P k m)
theorem lsM_ls (P : Nat → Bool) (m : Nat) : ∀ k, lsM P m (k + 1) = lsT P m k
  | 0 => by
    show min m (cnR P 0 m) = cnR P 0 m
    exact Nat.min_eq_right (cn_le P 0 m)
  | k + 1 => by
    have ih := lsM_ls P m k
    show min (lsM P m (k + 1)) (cnR P (k + 1) m) = min (lsT P m k) (cnR P (k + 1) m)
    rw [ih]
theorem lsM_least (P : Nat → Bool) {n : Nat} (m : Nat) (hn : 0 < n) : lsM P m n = leastT P n m := by
  obtain ⟨k, rfl⟩ : ∃ k, n = k + 1 := ⟨n - 1, by omega⟩
  exact lsM_ls P m k
theorem lsM_le (P : Nat → Bool) (m : Nat) : ∀ k, lsM P m k ≤ m
  | 0 => Nat.le_refl _
  | k + 1 => Nat.le_trans (Nat.min_le_left _ _) (lsM_le P m k)
end Go.Proofs.YtfconbblnmbnpahGreatDoor
namespace Go.Proofs.YtfconbblnmbnpahGreatDoor
open Go.RowKit

theorem below_st8 {B : Nat} {w w' : World} (h : Below B w w') (b : Nat) (hb : B ≤ b) (x0 x1 x2 x3 x4 x5 x6 x7 : Value) : Below B w ((((((((w'.setCell ⟨b, 0, none⟩ x0).setCell ⟨b, 1, none⟩ x1).setCell ⟨b, 2, none⟩ x2).setCell ⟨b, 3, none⟩ x3).setCell ⟨b, 4, none⟩ x4).setCell ⟨b, 5, none⟩ x5).setCell ⟨b, 6, none⟩ x6).setCell ⟨b, 7, none⟩ x7) :=
  (((((((h.setCell (p := ⟨b, 0, none⟩) hb x0).setCell (p := ⟨b, 1, none⟩) hb x1).setCell (p := ⟨b, 2, none⟩) hb x2).setCell (p := ⟨b, 3, none⟩) hb x3).setCell (p := ⟨b, 4, none⟩) hb x4).setCell (p := ⟨b, 5, none⟩) hb x5).setCell (p := ⟨b, 6, none⟩) hb x6).setCell (p := ⟨b, 7, none⟩) hb x7
/-- A state is written into a new block. -/
theorem zst_set {w : World} {b : Nat} (h : w.heap[b]? = some (.cells #[.int .i64 0, .int .i64 0, .int .i64 0, .int .i64 0, .int .i64 0, .int .i64 0, .int .i64 0, .bool false] 117)) (s : St) : ((((((((w.setCell ⟨b, 0, none⟩ (.int .i64 s.p)).setCell ⟨b, 1, none⟩ (.int .i64 (s.c 0))).setCell ⟨b, 2, none⟩ (.int .i64 (s.c 1))).setCell ⟨b, 3, none⟩ (.int .i64 (s.c 2))).setCell ⟨b, 4, none⟩ (.int .i64 (s.c 3))).setCell ⟨b, 5, none⟩ (.int .i64 (s.c 4))).setCell ⟨b, 6, none⟩ (.int .i64 (s.c 5))).setCell ⟨b, 7, none⟩ (.bool s.f)).heap[b]? = some (.cells #[.int .i64 s.p, .int .i64 (s.c 0), .int .i64 (s.c 1), .int .i64 (s.c 2), .int .i64 (s.c 3), .int .i64 (s.c 4), .int .i64 (s.c 5), .bool s.f] 117) := by
  simp [World.setCell, Array.getElem?_modify, h]
theorem touch_st (w : World) (b : Nat) (x0 x1 x2 x3 x4 x5 x6 x7 : Value) : KTouch [b] w ((((((((w.setCell ⟨b, 2, none⟩ x0).setCell ⟨b, 3, none⟩ x1).setCell ⟨b, 4, none⟩ x2).setCell ⟨b, 5, none⟩ x3).setCell ⟨b, 6, none⟩ x4).setCell ⟨b, 7, none⟩ x5).setCell ⟨b, 8, none⟩ x6).setCell ⟨b, 9, none⟩ x7) :=
  have hm : b ∈ [b] := by simp
  (((((((KTouch.set w hm 2 x0).trans (KTouch.set _ hm 3 x1)).trans (KTouch.set _ hm 4 x2)).trans (KTouch.set _ hm 5 x3)).trans (KTouch.set _ hm 6 x4)).trans (KTouch.set _ hm 7 x5)).trans (KTouch.set _ hm 8 x6)).trans (KTouch.set _ hm 9 x7)
end Go.Proofs.YtfconbblnmbnpahGreatDoor
namespace Go.Proofs.YtfconbblnmbnpahGreatDoor
open Go.RowKit

/-- A row of bools that can be read. -/
def Rw (w : World) (g n : Nat) (P : Nat → Bool) : Prop := g < w.heap.size ∧ ∀ i, i < n → w.cell? ⟨g, i, none⟩ = some (.bool (P i))
theorem Rw.all {w w' : World} {g n : Nat} {P : Nat → Bool} (h : Rw w g n P) (hb : Below w.heap.size w w') : Rw w' g n P :=
  ⟨Nat.lt_of_lt_of_le h.1 hb.size, fun i hi => (hb.cell (p := ⟨g, i, none⟩) h.1).trans (h.2 i hi)⟩
set_option maxRecDepth 100000 in
set_option maxHeartbeats 1000000 in
theorem suhas_any (P : Nat → Bool) (g n t : Nat) (w : World) (hR : Rw w g n P) (hn : 0 < n) (hn2 : n ≤ 40) (hp : ∀ x, P (x + n) = P x) :
    Calls Tryz.prog 97 #[.slice (some ⟨g, 0, none⟩) n n, .int .i64 t] w fun e w' => e = .returned (.bool (P t)) ∧ w' = w := by
  have hq : t % n < n := Nat.mod_lt t hn
  have c0 := hR.2 (t % n) hq
  rw [per_mod hp] at c0
  have hm : (t : Int) % (n : Int) = ((t % n : Nat) : Int) := (Int.natCast_emod t n).symm
  have hni : ((n : Int) == 0) = false := by rw [Bool.eq_false_iff]; simp; omega
  generalize P t = b at c0 ⊢
  generalize t % n = q at c0 hq hm
  have hqi : (q : Int) < (n : Int) := by omega
  clear hR hp
  go_enter Tryz.func97, Tryz.ntmps97
  go_wp2
  go_ret
  exact ⟨rfl, rfl⟩
end Go.Proofs.YtfconbblnmbnpahGreatDoor
namespace Go.Proofs.YtfconbblnmbnpahGreatDoor
open Go.RowKit

def SupWait (G : World → Prop) : Prop := ∀ (n : Int) (l : List S3) (v : Value) (r t : Int) (W : World), G W → Sps W v l → Calls Tryz.prog 23 #[.int .i64 n, v, .int .i64 r, .int .i64 t] W fun e w' => ∃ m : Nat, e = .returned (.tuple #[.int .i64 (m : Int), wErr (waitE n l r t)]) ∧ (waitE n l r t = 0 → WaitIs (hasT n l r) n.toNat t.toNat m) ∧ (waitE n l r t ≠ 0 → m = 0) ∧ Below W.heap.size W w'
/-- It does not wait longer than for as many frames. -/
theorem wait_bound {n : Nat} (hn : 0 < n) {l : List S3} {r : Int} {t m : Nat} (hf : t ≠ 0 → 0 < cnR (hasT n l r) 0 n) (h : WaitIs (hasT n l r) n t m) : m ≤ t * n := by
  by_cases ht : t = 0
  · subst ht
    have := wait_one h (wait_zero _ _)
    omega
  · by_cases hm : m ≤ t * n
    · exact hm
    · have h1 := h.2 (t * n) (by omega)
      obtain ⟨j, _, e⟩ := least_has (hasT n l r) hn (t * n)
      have h2 := cn_frames (p := hasT n l r) (n := n) (fun x => hasT_per l r x) j t 0
      rw [Nat.add_zero] at h2
      have h3 : t ≤ t * cnR (hasT n l r) 0 n := Nat.le_mul_of_pos_right t (hf ht)
      have h4 : cnR (hasT n l r) j 0 = 0 := rfl
      omega
end Go.Proofs.YtfconbblnmbnpahGreatDoor
namespace Go.Proofs.YtfconbblnmbnpahGreatDoor

/-- A wire that leads to a room, or comes from it. -/
def atR (r : Int) (l : LnD) : Bool := decide (l.w.1 = r) || decide (l.w.2.1 = r)
/-- What a room sees of a kernel's lines. -/
def seesK (k : KD) (r : Int) : List (List Int × Int) := (k.lines.filter (atR r)).map fun l => (l.xs, l.ls)
/-- A room's states ahead of each of n ticks, and behind the last one. -/
def statesK (p : PD) (n r : Nat) : List St := (List.range (n + 1)).map fun t => (kT p t).rooms.getD r stNew
theorem statesK_len (p : PD) (n r : Nat) : (statesK p n r).length = n + 1 := by simp [statesK]
theorem statesK_zero (p : PD) (r : Nat) : statesK p 0 r = [(newK p).rooms.getD r stNew] := by simp [statesK, kT]
theorem statesK_succ (p : PD) (n r : Nat) : statesK p (n + 1) r = statesK p n r ++ [(kT p (n + 1)).rooms.getD r stNew] := by
  unfold statesK
  rw [List.range_succ, List.map_append]
  rfl
theorem statesK_first (p : PD) (n r : Nat) : (statesK p n r)[0]? = some stNew := by
  have h : (newK p).rooms.getD r stNew = stNew := by
    unfold newK
    simp only [List.getD, List.getElem?_map]
    cases p.code[r]? <;> rfl
  rw [← h]
  simp [statesK, kT]
/-- What is wrong with a run. -/
def runE (p : PD) (n r : Int) : Int := if plchk p = 0 then (if r < 0 ∨ (p.code.length : Int) ≤ r ∨ n < 0 ∨ 2000 < n then 1 else 0) else plchk p
/-- Two states that look the same. -/
structure StSame (s t : St) : Prop where
  p : s.p = t.p
  c : ∀ i, i < 6 → s.c i = t.c i
  f : s.f = t.f
theorem StSame.refl (s : St) : StSame s s := ⟨rfl, fun _ _ => rfl, rfl⟩
theorem cells_same {o : O3} {c d : Nat → Int} {g : Int} {b : Bool} (h : ∀ i, i < 6 → c i = d i) (hA : o.2.1.toNat < 6) (hB : o.1 = 2 ∨ o.1 = 3 ∨ o.1 = 4 ∨ o.1 = 5 → o.2.2.toNat < 6) : ∀ i, i < 6 → cellsF o c g b i = cellsF o d g b i := fun i hi => by
  have hu : ∀ v, upd c o.2.1.toNat v i = upd d o.2.1.toNat v i := fun v => by
    unfold upd
    split
    · rfl
    · exact h i hi
  unfold cellsF
  split
  · exact hu _
  split
  · rename_i h2; rw [h _ (hB (by omega))]; exact hu _
  split
  · rename_i h3; rw [h _ hA, h _ (hB (by omega))]; exact hu _
  split
  · rename_i h4; rw [h _ hA, h _ (hB (by omega))]; exact hu _
  split
  · rename_i h5; rw [h _ hA, h _ (hB (by omega))]; exact hu _
  split
  · split
    · exact hu _
    · exact h i hi
  · exact h i hi
theorem step_same {o : O3} {s t : St} {n : Nat} {g : Int} {b : Bool} (h : StSame s t) (hA : o.2.1.toNat < 6) (hB : o.1 = 2 ∨ o.1 = 3 ∨ o.1 = 4 ∨ o.1 = 5 → o.2.2.toNat < 6) : StSame (stepF o s n g b) (stepF o t n g b) := by
  unfold stepF
  rw [← h.f]
  split
  · exact h
  · refine ⟨?_, cells_same h.c hA hB, rfl⟩
    show nextF o s n b = nextF o t n b
    unfold nextF
    rw [h.p, h.c _ hA]
theorem small_args {p : PD} {k : KD} {r : Nat} {c : List O3} {s : St} {o : O3} (h : Turn p k r c s o) : o.2.1.toNat < 6 ∧ (o.1 = 2 ∨ o.1 = 3 ∨ o.1 = 4 ∨ o.1 = 5 → o.2.2.toNat < 6) := by
  have hr := ok3_range h.ok
  have hb := (bA_le o.1).2
  refine ⟨by omega, fun hh => ?_⟩
  rcases hh with e | e | e | e <;> simp [e, bB] at hr <;> omega
/-- One turn of a room that sees the same. -/
theorem turn_same {p : PD} {k m : KD} {r : Nat} {c : List O3} {s t : St} {o : O3} (hk : Turn p k r c s o) (hm : Turn p m r c t o) (hs : StSame s t) (hl : o.1 = 8 ∨ o.1 = 9 → ∃ l, k.lines[o.2.2.toNat]? = some l ∧ m.lines[o.2.2.toNat]? = some l) (hrk : r < k.rooms.length) (hrm : r < m.rooms.length) :
    (turnK p k r).2 = (turnK p m r).2 ∧ ∃ s' t', (turnK p k r).1.rooms[r]? = some s' ∧ (turnK p m r).1.rooms[r]? = some t' ∧ StSame s' t' := by
  obtain ⟨hA, hB⟩ := small_args hk
  have hst : ∀ g b, StSame (stepF o s c.length g b) (stepF o t c.length g b) := fun g b => step_same hs hA hB
  cases hf : s.f with
  | true =>
    have hf' : t.f = true := by rw [← hs.f]; exact hf
    rw [turn_failed hk hf, turn_failed hm hf']
    exact ⟨by rw [hs.p], s, t, hk.hs, hm.hs, hs⟩
  | false =>
    have hf' : t.f = false := by rw [← hs.f]; exact hf
    by_cases h9 : o.1 = 9
    · obtain ⟨l, h1, h2⟩ := hl (Or.inr h9)
      cases hh : (headL l).2 with
      | true =>
        rw [turn_takes hk hf h9 h1 hh, turn_takes hm hf' h9 h2 hh]
        exact ⟨by rw [hs.p], _, _, List.getElem?_set_self hrk, List.getElem?_set_self hrm, hst _ _⟩
      | false =>
        rw [turn_waits hk hf h9 h1 hh, turn_waits hm hf' h9 h2 hh]
        exact ⟨by rw [hs.p], _, _, List.getElem?_set_self hrk, List.getElem?_set_self hrm, hst _ _⟩
    · by_cases h8 : o.1 = 8
      · obtain ⟨l, h1, h2⟩ := hl (Or.inl h8)
        rw [turn_sends hk hf h8 h1, turn_sends hm hf' h8 h2]
        exact ⟨by rw [hs.p], _, _, List.getElem?_set_self hrk, List.getElem?_set_self hrm, hst _ _⟩
      · rw [turn_else hk hf h8 h9, turn_else hm hf' h8 h9]
        exact ⟨by rw [hs.p], _, _, List.getElem?_set_self hrk, List.getElem?_set_self hrm, hst _ _⟩
/-- What is seen the same is the same line. -/
theorem sees_line : ∀ {ls ms : List LnD} {ws : List W4} {r : Int}, ls.length = ws.length → ms.length = ws.length → (∀ (i : Nat) l x, ls[i]? = some l → ws[i]? = some x → l.w = x) → (∀ (i : Nat) l x, ms[i]? = some l → ws[i]? = some x → l.w = x) →
    ((ls.filter (atR r)).map fun l => (l.xs, l.ls)) = ((ms.filter (atR r)).map fun l => (l.xs, l.ls)) → ∀ (i : Nat) x, ws[i]? = some x → x.1 = r ∨ x.2.1 = r → ls[i]? = ms[i]?
  | [], [], _, _, _, _, _, _, _, i, x, _, _ => by simp
  | [], _ :: _, ws, _, h1, h2, _, _, _, _, _, _, _ => by simp at h1 h2; omega
  | _ :: _, [], ws, _, h1, h2, _, _, _, _, _, _, _ => by simp at h1 h2; omega
  | l :: ls, m :: ms, [], _, h1, _, _, _, _, _, _, _, _ => by simp at h1
  | l :: ls, m :: ms, y :: ws, r, h1, h2, h3, h4, h5, i, x, hx, hr => by
    have e1 : l.w = y := h3 0 l y rfl rfl
    have e2 : m.w = y := h4 0 m y rfl rfl
    have ea : atR r m = atR r l := by unfold atR; rw [e1, e2]
    have rest : ((ls.filter (atR r)).map fun l => (l.xs, l.ls)) = ((ms.filter (atR r)).map fun l => (l.xs, l.ls)) ∧ (atR r l = true → l = m) := by
      cases hb : atR r l with
      | true =>
        rw [List.filter_cons_of_pos (by exact hb), List.filter_cons_of_pos (by rw [ea]; exact hb)] at h5
        simp only [List.map_cons, List.cons.injEq, Prod.mk.injEq] at h5
        refine ⟨h5.2, fun _ => ?_⟩
        obtain ⟨lw, lx, ll⟩ := l
        obtain ⟨mw, mx, ml⟩ := m
        simp only at e1 e2 h5
        rw [e1, e2, h5.1.1, h5.1.2]
      | false =>
        rw [List.filter_cons_of_neg (by rw [hb]; decide), List.filter_cons_of_neg (by rw [ea, hb]; decide)] at h5
        exact ⟨h5, fun h => by cases h⟩
    cases i with
    | zero =>
      simp only [List.getElem?_cons_zero, Option.some.injEq] at hx ⊢
      subst hx
      refine rest.2 ?_
      unfold atR
      rw [e1]
      rcases hr with hr | hr <;> simp [hr]
    | succ i =>
      simp only [List.getElem?_cons_succ] at hx ⊢
      exact sees_line (by simpa using h1) (by simpa using h2) (fun j l' x' hl hx => h3 (j + 1) l' x' (by simpa using hl) (by simpa using hx)) (fun j l' x' hl hx => h4 (j + 1) l' x' (by simpa using hl) (by simpa using hx)) rest.1 i x hx hr
/-- WHO SEES THE SAME DOES THE SAME: one tick. -/
theorem tick_same {p : PD} {k m : KD} (hp : plchk p = 0) (hk : KOk p k) (hm : KOk p m) (ht : k.time = m.time) {r : Nat} (hr : r < p.code.length) {s t : St} (hs : k.rooms[r]? = some s) (htt : m.rooms[r]? = some t) (hst : StSame s t) (hsee : seesK k r = seesK m r) :
    (tickK p p.spans k).2.2.1 = (tickK p p.spans m).2.2.1 ∧ ((tickK p p.spans k).2.2.1 = (r : Int) → (tickK p p.spans k).2 = (tickK p p.spans m).2 ∧ ∃ s' t', (tickK p p.spans k).1.rooms[r]? = some s' ∧ (tickK p p.spans m).1.rooms[r]? = some t' ∧ StSame s' t') := by
  have ew : whoK p k = whoK p m := by unfold whoK; rw [ht]
  refine ⟨by rw [(tick_told p k).2, (tick_told p m).2, ew], fun hw => ?_⟩
  rw [(tick_told p k).2] at hw
  have hwm : whoK p m = r := by rw [← ew]; exact hw
  have e1 : tickK p p.spans k = ((turnK p k r).1, k.time, (r : Int), (turnK p k r).2.1, (turnK p k r).2.2) := by
    unfold whoK at hw
    unfold tickK
    simp only [hw]
    rw [if_neg (by omega), Int.toNat_natCast]
  have e2 : tickK p p.spans m = ((turnK p m r).1, m.time, (r : Int), (turnK p m r).2.1, (turnK p m r).2.2) := by
    unfold whoK at hwm
    unfold tickK
    simp only [hwm]
    rw [if_neg (by omega), Int.toNat_natCast]
  obtain ⟨c, s0, o, tk⟩ := turn_of hp hk hr
  obtain rfl : s = s0 := Option.some.inj (hs.symm.trans tk.hs)
  have tm : Turn p m r c t o := ⟨tk.hc, htt, by rw [← hst.p]; exact tk.ho, tk.ck, hm.rooms r c t tk.hc htt, tk.ok⟩
  have hl : o.1 = 8 ∨ o.1 = 9 → ∃ l, k.lines[o.2.2.toNat]? = some l ∧ m.lines[o.2.2.toNat]? = some l := fun ho => by
    have hx : ∃ x, p.wires[o.2.2.toNat]? = some x ∧ (x.1 = (r : Int) ∨ x.2.1 = (r : Int)) := by
      have := op_wire hp tk.hc (List.mem_of_getElem? tk.ho)
      rcases ho with h8 | h9
      · obtain ⟨x, h1, h2⟩ := this.1 h8
        exact ⟨x, h1, Or.inl h2⟩
      · obtain ⟨x, h1, h2⟩ := this.2 h9
        exact ⟨x, h1, Or.inr h2⟩
    obtain ⟨x, hx1, hx2⟩ := hx
    have hlt : o.2.2.toNat < k.lines.length := by rw [hk.ll]; exact (List.getElem?_eq_some_iff.1 hx1).1
    have hl1 : k.lines[o.2.2.toNat]? = some k.lines[o.2.2.toNat] := List.getElem?_eq_getElem hlt
    have := sees_line hk.ll hm.ll (fun i l x h1 h2 => (hk.lines i l x h1 h2).w) (fun i l x h1 h2 => (hm.lines i l x h1 h2).w) hsee _ x hx1 hx2
    exact ⟨_, hl1, by rw [← this]; exact hl1⟩
  have hrl : r < k.rooms.length := by rw [hk.rl]; exact hr
  have hrm : r < m.rooms.length := by rw [hm.rl]; exact hr
  obtain ⟨q1, q2⟩ := turn_same tk tm hst hl hrl hrm
  rw [e1, e2]
  refine ⟨?_, q2⟩
  rw [ht, q1]
end Go.Proofs.YtfconbblnmbnpahGreatDoor
namespace Go.Proofs.YtfconbblnmbnpahGreatDoor

/-- Code that rests. -/
def restC : List O3 := [(10, 0, 0)]
/-- Codes of which all but some rest. -/
def purgeC (R : Nat → Bool) : Nat → List (List O3) → List (List O3)
  | _, [] => []
  | i, c :: l => (if R i = true then c else restC) :: purgeC R (i + 1) l
def purgeP (p : PD) (R : Nat → Bool) : PD := ⟨purgeC R 0 p.code, p.ticks, p.spans, p.wires⟩
theorem purgeC_len (R : Nat → Bool) : ∀ (i : Nat) (l : List (List O3)), (purgeC R i l).length = l.length
  | _, [] => rfl
  | i, c :: l => by simp [purgeC, purgeC_len R (i + 1) l]
theorem purgeC_at (R : Nat → Bool) : ∀ (i : Nat) (l : List (List O3)) (j : Nat), (purgeC R i l)[j]? = (l[j]?).map fun c => if R (i + j) = true then c else restC
  | _, [], j => by simp [purgeC]
  | i, c :: l, 0 => by simp [purgeC]
  | i, c :: l, j + 1 => by
    simp only [purgeC, List.getElem?_cons_succ]
    rw [purgeC_at R (i + 1) l j, show i + 1 + j = i + (j + 1) by omega]
theorem rest_chk : (chk restC).2 = 0 := by decide +kernel
theorem rest_ports (ws : List W4) (i : Nat) : portsB ws i restC = false := by
  have h8 : wiresB 8 restC = [] := by decide +kernel
  have h9 : wiresB 9 restC = [] := by decide +kernel
  unfold portsB
  rw [h8, h9]
  rfl
theorem purge_codes (R : Nat → Bool) : ∀ (i : Nat) (l : List (List O3)), codesE l = 0 → codesE (purgeC R i l) = 0
  | _, [], _ => rfl
  | i, c :: l, h => by
    unfold codesE at h
    have hc : (chk c).2 = 0 ∧ codesE l = 0 := by
      split at h
      · rename_i h1
        exact ⟨h1, h⟩
      · rename_i h1
        exact absurd h h1
    have hq : (chk (if R i = true then c else restC)).2 = 0 := by
      split
      · exact hc.1
      · exact rest_chk
    show codesE ((if R i = true then c else restC) :: purgeC R (i + 1) l) = 0
    unfold codesE
    rw [if_pos hq]
    exact purge_codes R (i + 1) l hc.2
theorem purge_ports (R : Nat → Bool) (ws : List W4) : ∀ (i : Nat) (l : List (List O3)), portsAny ws i l = false → portsAny ws i (purgeC R i l) = false
  | _, [], _ => rfl
  | i, c :: l, h => by
    rw [portsAny, Bool.or_eq_false_iff] at h
    show portsAny ws i ((if R i = true then c else restC) :: purgeC R (i + 1) l) = false
    rw [portsAny, Bool.or_eq_false_iff]
    refine ⟨?_, purge_ports R ws (i + 1) l h.2⟩
    split
    · exact h.1
    · exact rest_ports ws i
/-- A plan that is right is right without those. -/
theorem purge_right {p : PD} (R : Nat → Bool) (h : plchk p = 0) : plchk (purgeP p R) = 0 := by
  obtain ⟨h1, h2, h3, h4, h5, h6, h7, h8⟩ := plchk_zero h
  unfold plchk purgeP
  simp only [purgeC_len]
  rw [if_neg (by omega), if_neg h2, if_neg (by simpa using h3), if_neg (by simpa using h4), if_neg (by rw [h5]; decide), if_neg (by rw [h6]; decide), if_neg (by simpa using purge_codes R 0 _ h7), if_neg (by rw [purge_ports R _ 0 _ h8]; decide)]
/-- Who leads to one of them is one of them. -/
def ClosedR (ws : List W4) (R : Nat → Bool) : Prop := ∀ x ∈ ws, ∀ a b : Nat, x.1 = (a : Int) → x.2.1 = (b : Int) → R b = true → R a = true
theorem way_closed (ws : List W4) (r : Nat) (hw : ∀ x ∈ ws, ∀ b : Nat, x.2.1 = (b : Int) → b < 5) : ClosedR ws (fun i => way ws i r) := fun x hx a b ha hb hr => by
  have h1 : way ws a b = true := pm_edge _ 5 a b (by
    unfold edge
    rw [Bool.or_eq_true, List.any_eq_true]
    exact Or.inr ⟨x, hx, by simp [ha, hb]⟩)
  exact way_trans ws (hw x hx b hb) h1 hr
/-- Two kernels that are the same for some rooms, and the wires that lead to them. -/
structure Sim (ws : List W4) (R : Nat → Bool) (k m : KD) : Prop where
  time : k.time = m.time
  rooms : ∀ i, R i = true → k.rooms[i]? = m.rooms[i]?
  lines : ∀ (i : Nat) x (b : Nat), ws[i]? = some x → x.2.1 = (b : Int) → R b = true → k.lines[i]? = m.lines[i]?
theorem sim_new (p : PD) (R : Nat → Bool) : Sim p.wires R (newK p) (newK (purgeP p R)) := by
  refine ⟨rfl, fun i _ => ?_, fun i x b _ _ _ => rfl⟩
  simp only [newK, purgeP, List.getElem?_map, purgeC_at]
  cases p.code[i]? <;> rfl
/-- A room that is one of them does its turn alike. -/
theorem turn_sim {p q : PD} {R : Nat → Bool} {k m : KD} {r : Nat} {c : List O3} {s : St} {o : O3} (hp : plchk p = 0) (hk : KOk p k) (hm : KOk q m) (hqw : q.wires = p.wires) (tk : Turn p k r c s o) (tm : Turn q m r c s o) (hr : R r = true) (h : Sim p.wires R k m) : Sim p.wires R (turnK p k r).1 (turnK q m r).1 := by
  have hrk : r < k.rooms.length := (List.getElem?_eq_some_iff.1 tk.hs).1
  have hrm : r < m.rooms.length := (List.getElem?_eq_some_iff.1 tm.hs).1
  have ht : k.time + 1 = m.time + 1 := by rw [h.time]
  have hrooms : ∀ (s' : St) i, R i = true → (k.rooms.set r s')[i]? = (m.rooms.set r s')[i]? := fun s' i hi => by
    by_cases hir : r = i
    · subst hir
      rw [List.getElem?_set_self hrk, List.getElem?_set_self hrm]
    · rw [List.getElem?_set_ne hir, List.getElem?_set_ne hir]
      exact h.rooms i hi
  have hop := op_wire hp tk.hc (List.mem_of_getElem? tk.ho)
  have hset : ∀ (z : Nat) (l : LnD) (i : Nat), k.lines[z]? ≠ none → m.lines[z]? ≠ none → k.lines[i]? = m.lines[i]? → (k.lines.set z l)[i]? = (m.lines.set z l)[i]? := fun z l i h1 h2 h3 => by
    by_cases hzi : z = i
    · subst hzi
      have hz1 : z < k.lines.length := by
        rcases Nat.lt_or_ge z k.lines.length with h4 | h4
        · exact h4
        · exact absurd (List.getElem?_eq_none h4) h1
      have hz2 : z < m.lines.length := by
        rcases Nat.lt_or_ge z m.lines.length with h4 | h4
        · exact h4
        · exact absurd (List.getElem?_eq_none h4) h2
      rw [List.getElem?_set_self hz1, List.getElem?_set_self hz2]
    · rw [List.getElem?_set_ne hzi, List.getElem?_set_ne hzi]
      exact h3
  cases hf : s.f with
  | true =>
    rw [turn_failed tk hf, turn_failed tm hf]
    exact ⟨ht, h.rooms, h.lines⟩
  | false =>
    by_cases h9 : o.1 = 9
    · obtain ⟨x, hx, hxr⟩ := hop.2 h9
      have hlt : o.2.2.toNat < k.lines.length := by rw [hk.ll]; exact (List.getElem?_eq_some_iff.1 hx).1
      have hl1 : k.lines[o.2.2.toNat]? = some k.lines[o.2.2.toNat] := List.getElem?_eq_getElem hlt
      have hl2 : m.lines[o.2.2.toNat]? = some k.lines[o.2.2.toNat] := by rw [← h.lines _ x r hx hxr hr]; exact hl1
      generalize k.lines[o.2.2.toNat] = l at hl1 hl2
      cases hh : (headL l).2 with
      | true =>
        rw [turn_takes tk hf h9 hl1 hh, turn_takes tm hf h9 hl2 hh]
        exact ⟨ht, hrooms _, fun i y b hy hb hR => hset _ _ i (by rw [hl1]; simp) (by rw [hl2]; simp) (h.lines i y b hy hb hR)⟩
      | false =>
        rw [turn_waits tk hf h9 hl1 hh, turn_waits tm hf h9 hl2 hh]
        exact ⟨ht, hrooms _, h.lines⟩
    · by_cases h8 : o.1 = 8
      · obtain ⟨x, hx, hxr⟩ := hop.1 h8
        have hlt : o.2.2.toNat < k.lines.length := by rw [hk.ll]; exact (List.getElem?_eq_some_iff.1 hx).1
        have hlt2 : o.2.2.toNat < m.lines.length := by rw [hm.ll, hqw]; exact (List.getElem?_eq_some_iff.1 hx).1
        have hl1 : k.lines[o.2.2.toNat]? = some k.lines[o.2.2.toNat] := List.getElem?_eq_getElem hlt
        have hl2 : m.lines[o.2.2.toNat]? = some m.lines[o.2.2.toNat] := List.getElem?_eq_getElem hlt2
        rw [turn_sends tk hf h8 hl1, turn_sends tm hf h8 hl2]
        refine ⟨ht, hrooms _, fun i y b hy hb hR => ?_⟩
        by_cases hzi : o.2.2.toNat = i
        · subst hzi
          have he := h.lines _ y b hy hb hR
          rw [hl1, hl2] at he
          rw [Option.some.inj he]
          rw [List.getElem?_set_self hlt, List.getElem?_set_self hlt2]
        · show (k.lines.set _ _)[i]? = (m.lines.set _ _)[i]?
          rw [List.getElem?_set_ne hzi, List.getElem?_set_ne hzi]
          exact h.lines i y b hy hb hR
      · rw [turn_else tk hf h8 h9, turn_else tm hf h8 h9]
        exact ⟨ht, hrooms _, h.lines⟩
/-- WHO CANNOT TELL DOES NOT MATTER: one tick. -/
theorem sim_tick {p : PD} {R : Nat → Bool} {k m : KD} (hp : plchk p = 0) (hk : KOk p k) (hm : KOk (purgeP p R) m) (hc : ClosedR p.wires R) (hw0 : ∀ x ∈ p.wires, 0 ≤ x.1) (h : Sim p.wires R k m) : Sim p.wires R (tickK p p.spans k).1 (tickK (purgeP p R) (purgeP p R).spans m).1 := by
  have hq := purge_right R hp
  have ew : whoK (purgeP p R) m = whoK p k := by
    unfold whoK purgeP
    rw [h.time]
  have htime : (tickK p p.spans k).1.time = (tickK (purgeP p R) (purgeP p R).spans m).1.time := by rw [tick_time, tick_time, h.time]
  by_cases hneg : whoK p k < 0
  · have e1 : tickK p p.spans k = (⟨k.rooms, k.lines, k.time + 1⟩, k.time, whoK p k, 0, 0) := by
      unfold whoK at hneg ⊢
      unfold tickK
      simp only
      rw [if_pos hneg]
    have e2 : (tickK (purgeP p R) (purgeP p R).spans m).1 = ⟨m.rooms, m.lines, m.time + 1⟩ := by
      have hneg2 : whoK (purgeP p R) m < 0 := by rw [ew]; exact hneg
      unfold whoK at hneg2
      unfold tickK
      simp only
      rw [if_pos hneg2]
    rw [e1, e2]
    exact ⟨by rw [h.time], h.rooms, h.lines⟩
  · obtain ⟨rn, hrn⟩ : ∃ n : Nat, whoK p k = n := ⟨(whoK p k).toNat, by omega⟩
    have hrl : rn < p.code.length := by
      have := (who_room hp (k.time % p.ticks)).2
      unfold whoK at hrn
      rw [hrn] at this
      simpa using this (by omega)
    have hrl2 : rn < (purgeP p R).code.length := by
      show rn < (purgeC R 0 p.code).length
      rw [purgeC_len]
      exact hrl
    cases hR : R rn with
    | false =>
      refine ⟨htime, fun i hi => ?_, fun i x b hx hb hRb => ?_⟩
      · have hne : i ≠ rn := fun e => by rw [e, hR] at hi; cases hi
        rw [tick_room (p := p) (k := k) (r := i) (by rw [hrn]; omega), tick_room (p := purgeP p R) (k := m) (r := i) (by rw [ew, hrn]; omega)]
        exact h.rooms i hi
      · obtain ⟨a, ha⟩ : ∃ n : Nat, x.1 = n := ⟨x.1.toNat, by have := hw0 x (List.mem_of_getElem? hx); omega⟩
        have hRa := hc x (List.mem_of_getElem? hx) a b ha hb hRb
        have hne1 : a ≠ rn := fun e => by rw [e, hR] at hRa; cases hRa
        have hne2 : b ≠ rn := fun e => by rw [e, hR] at hRb; cases hRb
        rw [tick_line hp hk hx (by rw [ha, hrn]; omega) (by rw [hb, hrn]; omega), tick_line hq hm (show (purgeP p R).wires[i]? = some x from hx) (by rw [ha, ew, hrn]; omega) (by rw [hb, ew, hrn]; omega)]
        exact h.lines i x b hx hb hRb
    | true =>
      have e1 : (tickK p p.spans k).1 = (turnK p k rn).1 := by
        unfold whoK at hrn
        unfold tickK
        simp only [hrn]
        rw [if_neg (by omega), Int.toNat_natCast]
      have e2 : (tickK (purgeP p R) (purgeP p R).spans m).1 = (turnK (purgeP p R) m rn).1 := by
        have hrn2 : whoK (purgeP p R) m = rn := by rw [ew]; exact hrn
        unfold whoK at hrn2
        unfold tickK
        simp only [hrn2]
        rw [if_neg (by omega), Int.toNat_natCast]
      rw [e1, e2]
      obtain ⟨c, s, o, tk⟩ := turn_of hp hk hrl
      have hs2 : m.rooms[rn]? = some s := by rw [← h.rooms rn hR]; exact tk.hs
      have hc2 : (purgeP p R).code[rn]? = some c := by
        show (purgeC R 0 p.code)[rn]? = some c
        rw [purgeC_at, tk.hc, Nat.zero_add]
        simp [hR]
      have tm : Turn (purgeP p R) m rn c s o := ⟨hc2, hs2, tk.ho, tk.ck, tk.st, tk.ok⟩
      exact turn_sim hp hk hm rfl tk tm hR h
/-- .. all along. -/
theorem sim_all {p : PD} {R : Nat → Bool} (hp : plchk p = 0) (hc : ClosedR p.wires R) (hw0 : ∀ x ∈ p.wires, 0 ≤ x.1) : ∀ t, Sim p.wires R (kT p t) (kT (purgeP p R) t)
  | 0 => sim_new p R
  | t + 1 => sim_tick hp (kT_ok hp t) (kT_ok (purge_right R hp) t) hc hw0 (sim_all hp hc hw0 t)
theorem purge_states {p : PD} {r : Nat} (hp : plchk p = 0) (n : Nat) : statesK (purgeP p (fun i => way p.wires i r)) n r = statesK p n r := by
  have hrange : ∀ x ∈ p.wires, 0 ≤ x.1 ∧ x.1 < 5 ∧ 0 ≤ x.2.1 ∧ x.2.1 < 5 := fun x hx => by
    have h1 := (wschk_ok (plchk_zero hp).2.2.2.1).2 x hx
    unfold w4chk wchk at h1
    split at h1
    · rename_i h2
      omega
    · cases h1
  have h := sim_all hp (way_closed p.wires r (fun x hx b hb => by have := hrange x hx; omega)) (fun x hx => (hrange x hx).1)
  unfold statesK
  apply List.map_congr_left
  intro t _
  have := (h t).rooms r (way_self _ _)
  rw [List.getD, List.getD, this]
end Go.Proofs.YtfconbblnmbnpahGreatDoor
namespace Go.Proofs.YtfconbblnmbnpahGreatDoor

/-- A kernel, and how often each room was helped. -/
structure CD where
  k : KD
  ts : List Int
/-- What is wrong with a plan and its rules. -/
def ruleOut (n : Int) : Bool := decide (n < 0) || decide (2 < n)
def carE (p : PD) (what : List Int) (most : Int) : Int :=
  if plchk p = 0 then (if what.length = p.code.length then (if what.any ruleOut = true then 1 else if most < 0 ∨ 100 < most then 1 else 0) else 3) else plchk p
theorem carE_zero {p : PD} {what : List Int} {most : Int} (h : carE p what most = 0) : plchk p = 0 ∧ what.length = p.code.length ∧ (∀ n ∈ what, 0 ≤ n ∧ n ≤ 2) ∧ 0 ≤ most ∧ most ≤ 100 := by
  unfold carE at h
  split at h
  · rename_i h1
    split at h
    · rename_i h2
      split at h
      · omega
      · rename_i h3
        split at h
        · omega
        · refine ⟨h1, h2, fun n hn => ?_, by omega, by omega⟩
          have h3' : what.any ruleOut = false := by simpa using h3
          have := any_of_all h3' hn
          unfold ruleOut at this
          simp only [Bool.or_eq_false_iff, decide_eq_false_iff_not] at this
          omega
    · omega
  · rename_i h1
    exact absurd h h1
def newC (p : PD) : CD := ⟨newK p, p.code.map fun _ => 0⟩
/-- Is a room helped? -/
def caresB (what : List Int) (most : Int) (d : CD) (r : Nat) : Bool := (d.k.rooms.getD r stNew).f && (decide (0 < what.getD r 0) && decide (d.ts.getD r 0 < most))
/-- A room that is helped. -/
def helpS (p : PD) (what : List Int) (r : Nat) (s : St) : St := if what.getD r 0 = 1 then stNew else ⟨if s.p + 1 = ((p.code.getD r []).length : Int) then 0 else s.p + 1, s.c, false⟩
def helpC (p : PD) (what : List Int) (most : Int) (d : CD) : CD :=
  if 0 ≤ whoK p d.k ∧ caresB what most d (whoK p d.k).toNat = true then ⟨⟨d.k.rooms.set (whoK p d.k).toNat (helpS p what (whoK p d.k).toNat (d.k.rooms.getD (whoK p d.k).toNat stNew)), d.k.lines, d.k.time⟩, d.ts.set (whoK p d.k).toNat (d.ts.getD (whoK p d.k).toNat 0 + 1)⟩ else d
/-- A tick; what is told of it is the kernel's. -/
def tickC (p : PD) (what : List Int) (most : Int) (d : CD) : CD := ⟨(tickK p p.spans (helpC p what most d).k).1, (helpC p what most d).ts⟩
def evC (p : PD) (what : List Int) (most : Int) (d : CD) : Int × Int × Int × Int := (tickK p p.spans (helpC p what most d).k).2
structure COk (p : PD) (what : List Int) (most : Int) (d : CD) : Prop where
  k : KOk p d.k
  tl : d.ts.length = p.code.length
  ts : ∀ (i : Nat) t, d.ts[i]? = some t → 0 ≤ t ∧ t ≤ most ∧ (what.getD i 0 ≤ 0 → t = 0)
theorem help_time (p : PD) (what : List Int) (most : Int) (d : CD) : (helpC p what most d).k.time = d.k.time := by
  unfold helpC
  split <;> rfl
theorem help_lines (p : PD) (what : List Int) (most : Int) (d : CD) : (helpC p what most d).k.lines = d.k.lines := by
  unfold helpC
  split <;> rfl
theorem help_who (p : PD) (what : List Int) (most : Int) (d : CD) : whoK p (helpC p what most d).k = whoK p d.k := by
  unfold whoK
  rw [help_time]
theorem help_other (p : PD) (what : List Int) (most : Int) (d : CD) {r : Nat} (hr : (r : Int) ≠ whoK p d.k) : (helpC p what most d).k.rooms[r]? = d.k.rooms[r]? ∧ (helpC p what most d).ts[r]? = d.ts[r]? := by
  unfold helpC
  split
  · rename_i h
    exact ⟨List.getElem?_set_ne (by omega), List.getElem?_set_ne (by omega)⟩
  · exact ⟨rfl, rfl⟩
theorem help_no {p : PD} {what : List Int} {most : Int} {d : CD} (h : ¬ (0 ≤ whoK p d.k ∧ caresB what most d (whoK p d.k).toNat = true)) : helpC p what most d = d := by
  unfold helpC
  rw [if_neg h]
theorem help_yes {p : PD} {what : List Int} {most : Int} {d : CD} {rn : Nat} {s : St} {t : Int} (hr : whoK p d.k = rn) (hs : d.k.rooms[rn]? = some s) (ht : d.ts[rn]? = some t) (hc : caresB what most d rn = true) : helpC p what most d = ⟨⟨d.k.rooms.set rn (helpS p what rn s), d.k.lines, d.k.time⟩, d.ts.set rn (t + 1)⟩ := by
  unfold helpC
  rw [hr, Int.toNat_natCast, if_pos ⟨by omega, hc⟩]
  simp only [List.getD, hs, ht, Option.getD_some]
theorem newC_ok {p : PD} {what : List Int} {most : Int} (h : carE p what most = 0) : COk p what most (newC p) := by
  obtain ⟨h1, h2, h3, h4, h5⟩ := carE_zero h
  refine ⟨new_ok h1, by simp [newC], fun i t ht => ?_⟩
  unfold newC at ht
  simp only [List.getElem?_map] at ht
  obtain ⟨_, _, rfl⟩ := Option.map_eq_some_iff.1 ht
  exact ⟨Int.le_refl _, h4, fun _ => rfl⟩
theorem helpC_ok {p : PD} {what : List Int} {most : Int} {d : CD} (hp : plchk p = 0) (h : COk p what most d) : COk p what most (helpC p what most d) := by
  unfold helpC
  split
  · rename_i hc
    obtain ⟨hw, hc⟩ := hc
    unfold caresB at hc
    simp only [Bool.and_eq_true, decide_eq_true_eq] at hc
    obtain ⟨hf, hwt, hts⟩ := hc
    obtain ⟨rn, hrn⟩ : ∃ n : Nat, whoK p d.k = n := ⟨(whoK p d.k).toNat, by omega⟩
    rw [hrn, Int.toNat_natCast] at hf hwt hts ⊢
    have hlt : rn < p.code.length := by
      have := (who_room hp (d.k.time % p.ticks)).2
      unfold whoK at hrn
      rw [hrn] at this
      simpa using this (by omega)
    have hrl : rn < d.k.rooms.length := by rw [h.k.rl]; exact hlt
    have htl : rn < d.ts.length := by rw [h.tl]; exact hlt
    refine ⟨⟨by simp [h.k.rl], h.k.ll, fun i c s hi hs => ?_, h.k.lines, h.k.lost, h.k.time⟩, by simp [h.tl], fun i t ht => ?_⟩
    · by_cases hir : rn = i
      · subst hir
        simp only at hs
        rw [List.getElem?_set_self hrl] at hs
        obtain rfl := Option.some.inj hs
        have hs0 : d.k.rooms[rn]? = some (d.k.rooms.getD rn stNew) := by simp [List.getD, hrl]
        have hst := stOk_iff.1 (h.k.rooms rn c _ hi hs0)
        have hce : p.code.getD rn [] = c := by simp [List.getD, hi]
        unfold helpS
        rw [stOk_iff]
        split
        · refine ⟨Int.le_refl _, ?_, fun i _ => ⟨Int.le_refl _, by simp [stNew]⟩⟩
          show (0 : Int) < _
          omega
        · rw [hce]
          by_cases h1 : (d.k.rooms.getD rn stNew).p + 1 = (c.length : Int)
          · rw [if_pos h1]
            exact ⟨Int.le_refl _, by show (0 : Int) < _; omega, hst.2.2⟩
          · rw [if_neg h1]
            exact ⟨by show 0 ≤ (d.k.rooms.getD rn stNew).p + 1; omega, by show (d.k.rooms.getD rn stNew).p + 1 < _; omega, hst.2.2⟩
      · simp only at hs
        rw [List.getElem?_set_ne hir] at hs
        exact h.k.rooms i c s hi hs
    · by_cases hir : rn = i
      · subst hir
        simp only at ht
        rw [List.getElem?_set_self htl] at ht
        obtain rfl := Option.some.inj ht
        have h0 := h.ts rn d.ts[rn] (List.getElem?_eq_getElem htl)
        have he : d.ts.getD rn 0 = d.ts[rn] := by simp [List.getD, htl]
        rw [he] at hts ⊢
        exact ⟨by omega, by omega, fun hh => by omega⟩
      · simp only at ht
        rw [List.getElem?_set_ne hir] at ht
        exact h.ts i t ht
  · exact h
theorem tickC_ok {p : PD} {what : List Int} {most : Int} {d : CD} (hp : plchk p = 0) (h : COk p what most d) : COk p what most (tickC p what most d) := by
  have h' := helpC_ok hp h
  exact ⟨tick_ok hp h'.k, h'.tl, h'.ts⟩
/-- No room has failed. -/
def NoneF (k : KD) : Prop := ∀ (i : Nat) s, k.rooms[i]? = some s → s.f = false
theorem none_new (p : PD) : NoneF (newK p) := fun i s h => by
  unfold newK at h
  simp only [List.getElem?_map] at h
  obtain ⟨_, _, rfl⟩ := Option.map_eq_some_iff.1 h
  rfl
/-- Where none failed none is helped. -/
theorem none_help {p : PD} {what : List Int} {most : Int} {d : CD} (h : NoneF d.k) : helpC p what most d = d := by
  unfold helpC
  split
  · rename_i hc
    obtain ⟨_, hc⟩ := hc
    unfold caresB at hc
    simp only [Bool.and_eq_true] at hc
    obtain ⟨hf, _⟩ := hc
    generalize (whoK p d.k).toNat = r at hf
    cases hr : d.k.rooms[r]? with
    | none => rw [List.getD, hr] at hf; cases hf
    | some s =>
      rw [List.getD, hr] at hf
      have := h r s hr
      simp only [Option.getD_some] at hf
      rw [this] at hf
      cases hf
  · rfl
/-- Who fails at a tick is told. -/
theorem none_tick {p : PD} {k : KD} (hp : plchk p = 0) (hk : KOk p k) (h : NoneF k) (h4 : (tickK p p.spans k).2.2.2.2 ≠ 4) : NoneF (tickK p p.spans k).1 := by
  by_cases hneg : whoK p k < 0
  · have e1 : (tickK p p.spans k).1 = ⟨k.rooms, k.lines, k.time + 1⟩ := by
      unfold whoK at hneg
      unfold tickK
      simp only
      rw [if_pos hneg]
    rw [e1]
    exact h
  · obtain ⟨rn, hrn⟩ : ∃ n : Nat, whoK p k = n := ⟨(whoK p k).toNat, by omega⟩
    have hrl : rn < p.code.length := by
      have := (who_room hp (k.time % p.ticks)).2
      unfold whoK at hrn
      rw [hrn] at this
      simpa using this (by omega)
    have e1 : tickK p p.spans k = ((turnK p k rn).1, k.time, (rn : Int), (turnK p k rn).2.1, (turnK p k rn).2.2) := by
      unfold whoK at hrn
      unfold tickK
      simp only [hrn]
      rw [if_neg (by omega), Int.toNat_natCast]
    rw [e1] at h4 ⊢
    obtain ⟨c, s, o, tk⟩ := turn_of hp hk hrl
    obtain ⟨a1, a2, a3⟩ := tk.at
    have hf := h rn s tk.hs
    intro i s' hs'
    by_cases hir : rn = i
    · subst hir
      have hroom : (turnK p k rn).1.rooms = k.rooms.set rn (stepF o s c.length (gotK k o s).1 (gotK k o s).2) := by
        unfold turnK
        simp only [a1, a2, a3]
      simp only [hroom] at hs'
      rw [List.getElem?_set_self (List.getElem?_eq_some_iff.1 tk.hs).1] at hs'
      obtain rfl := Option.some.inj hs'
      unfold stepF
      rw [if_neg (by rw [hf]; decide)]
      show decide (o.1 = 11) = false
      apply decide_eq_false
      intro h11
      apply h4
      have := turn_else tk hf (by omega) (by omega)
      simp only [this, h11, if_true]
    · have := tick_room (p := p) (k := k) (r := i) (by rw [hrn]; omega)
      rw [e1] at this
      simp only at this hs'
      rw [this] at hs'
      exact h i s' hs'
/-- Two kernels with rules that are the same for some rooms, and the wires that lead to them. -/
structure SimC (ws : List W4) (R : Nat → Bool) (d e : CD) : Prop where
  k : Sim ws R d.k e.k
  ts : ∀ i, R i = true → d.ts[i]? = e.ts[i]?
theorem simC_new (p : PD) (R : Nat → Bool) : SimC p.wires R (newC p) (newC (purgeP p R)) := by
  refine ⟨sim_new p R, fun i _ => ?_⟩
  simp only [newC, purgeP, List.getElem?_map, purgeC_at]
  cases p.code[i]? <;> rfl
theorem simC_help {p : PD} {R : Nat → Bool} {what : List Int} {most : Int} {d e : CD} (hd : COk p what most d) (he : COk (purgeP p R) what most e) (hp : plchk p = 0) (h : SimC p.wires R d e) : SimC p.wires R (helpC p what most d) (helpC (purgeP p R) what most e) := by
  have ew : whoK (purgeP p R) e.k = whoK p d.k := by
    unfold whoK purgeP
    rw [h.k.time]
  refine ⟨⟨by rw [help_time, help_time, h.k.time], fun i hi => ?_, fun i x b hx hb hR => by rw [help_lines, help_lines]; exact h.k.lines i x b hx hb hR⟩, fun i hi => ?_⟩
  all_goals
    by_cases hiw : (i : Int) = whoK p d.k
    case neg =>
      obtain ⟨a1, a2⟩ := help_other p what most d hiw
      obtain ⟨b1, b2⟩ := help_other (purgeP p R) what most e (r := i) (by rw [ew]; exact hiw)
      first
        | (rw [a1, b1]; exact h.k.rooms i hi)
        | (rw [a2, b2]; exact h.ts i hi)
    have hw : whoK p d.k = (i : Int) := hiw.symm
    have hlt : i < p.code.length := by
      have := (who_room hp (d.k.time % p.ticks)).2
      unfold whoK at hw
      rw [hw] at this
      simpa using this (by omega)
    have hr := h.k.rooms i hi
    have ht := h.ts i hi
    have hrl : i < d.k.rooms.length := by rw [hd.k.rl]; exact hlt
    have hrl2 : i < e.k.rooms.length := by rw [he.k.rl]; show i < (purgeC R 0 p.code).length; rw [purgeC_len]; exact hlt
    have htl : i < d.ts.length := by rw [hd.tl]; exact hlt
    have htl2 : i < e.ts.length := by rw [he.tl]; show i < (purgeC R 0 p.code).length; rw [purgeC_len]; exact hlt
    have er : d.k.rooms.getD i stNew = e.k.rooms.getD i stNew := by rw [List.getD, List.getD, hr]
    have et : d.ts.getD i 0 = e.ts.getD i 0 := by rw [List.getD, List.getD, ht]
    have ec : (purgeP p R).code.getD i [] = p.code.getD i [] := by
      show (purgeC R 0 p.code).getD i [] = _
      rw [List.getD, List.getD, purgeC_at, Nat.zero_add]
      simp [hi]
    have eb : caresB what most e i = caresB what most d i := by
      unfold caresB
      rw [er, et]
    have eh : ∀ s, helpS (purgeP p R) what i s = helpS p what i s := fun s => by
      unfold helpS
      rw [ec]
    unfold helpC
    rw [ew, hw, Int.toNat_natCast, eb]
    by_cases hcb : (0 : Int) ≤ (i : Int) ∧ caresB what most d i = true
    · rw [if_pos hcb, if_pos hcb]
      simp only [eh, ← er, ← et]
      first
        | rw [List.getElem?_set_self hrl, List.getElem?_set_self hrl2]
        | rw [List.getElem?_set_self htl, List.getElem?_set_self htl2]
    · rw [if_neg hcb, if_neg hcb]
      first
        | exact hr
        | exact ht
/-- NO OTHER ROOM SEES IT: one tick. -/
theorem simC_tick {p : PD} {R : Nat → Bool} {what : List Int} {most : Int} {d e : CD} (hp : plchk p = 0) (hd : COk p what most d) (he : COk (purgeP p R) what most e) (hc : ClosedR p.wires R) (hw0 : ∀ x ∈ p.wires, 0 ≤ x.1) (h : SimC p.wires R d e) : SimC p.wires R (tickC p what most d) (tickC (purgeP p R) what most e) := by
  have hh := simC_help hd he hp h
  exact ⟨sim_tick hp (helpC_ok hp hd).k (helpC_ok (purge_right R hp) he).k hc hw0 hh.k, hh.ts⟩
end Go.Proofs.YtfconbblnmbnpahGreatDoor
namespace Go.Proofs.YtfconbblnmbnpahGreatDoor
open Go.RowKit

/-- What package care does, in every world of a kind: K w0 w p what most d cb F: made in the world w0, of the plan p, a kernel with rules lies at block cb; it is d, and all that it has lies in the blocks F. -/
structure CarN (G : World → Prop) where
  K : World → World → PD → List Int → Int → CD → Nat → List Nat → Prop
  all : ∀ w w', G w → Below w.heap.size w w' → G w'
  since : ∀ {w0 w p what most d cb F}, K w0 w p what most d cb F → Below w0.heap.size w0 w
  ge : ∀ {w0 w p what most d cb F}, K w0 w p what most d cb F → ∀ g ∈ F, w0.heap.size ≤ g ∧ g < w.heap.size
  lower : ∀ {w1 w0 w p what most d cb F}, Below w1.heap.size w1 w0 → K w0 w p what most d cb F → K w1 w p what most d cb F
  frame : ∀ {w0 w w' p what most d cb F M}, K w0 w p what most d cb F → KTouch M w w' → (∀ m ∈ M, m ∉ F ∧ w0.heap.size ≤ m) → K w0 w' p what most d cb F
  new : ∀ (p : PD) (vc vs vw wv : Value) (what : List Int) (most : Int) (W : World), G W → Pln W vc vs vw p → Stp W wv what → carE p what most = 0 → Calls Tryz.prog 22 #[plV vc p.ticks vs vw, wv, .int .i64 most] W fun e w' => ∃ cb F, e = .returned (.tuple #[.pointer (some ⟨cb, 0, none⟩), .nilIface]) ∧ K W w' p what most (newC p) cb F
  no : ∀ (p : PD) (vc vs vw wv : Value) (what : List Int) (most : Int) (W : World), G W → Pln W vc vs vw p → Stp W wv what → carE p what most ≠ 0 → Calls Tryz.prog 22 #[plV vc p.ticks vs vw, wv, .int .i64 most] W fun e w' => ∃ x, e = .returned (.tuple #[.pointer x, wErr (carE p what most)]) ∧ Below W.heap.size W w'
  tick : ∀ {w0 W p what most d cb F}, G w0 → K w0 W p what most d cb F → carE p what most = 0 → COk p what most d → d.k.time < 100000000 → Calls Tryz.prog 24 #[.pointer (some ⟨cb, 0, none⟩)] W fun e w' => e = .returned (evA (evC p what most d)) ∧ ∃ F', K w0 w' p what most (tickC p what most d) cb F' ∧ KTouch F W w' ∧ ∀ g ∈ F', g ∈ F ∨ W.heap.size ≤ g
end Go.Proofs.YtfconbblnmbnpahGreatDoor
namespace Go.Proofs.YtfconbblnmbnpahGreatDoor
open Go.RowKit

/-- Where it lies. -/
structure CW where
  kb : Nat
  a : GW
  qb : Nat
  qcap : Nat
/-- All its blocks. -/
def CW.F (cb : Nat) (x : CW) : List Nat := cb :: x.qb :: x.a.F x.kb
structure GC (w : World) (base : Nat) (p : PD) (what : List Int) (most : Int) (d : CD) (cb : Nat) (x : CW) : Prop where
  c0 : w.cell? ⟨cb, 0, none⟩ = some (.pointer (some ⟨x.kb, 0, none⟩))
  c1 : w.cell? ⟨cb, 1, none⟩ = some (.slice (some ⟨x.qb, 0, none⟩) d.ts.length x.qcap)
  c2 : w.cell? ⟨cb, 2, none⟩ = some (.int .i64 most)
  k : GK w base p d.k x.kb x.a
  row : ∀ (i : Nat) t, d.ts[i]? = some t → w.cell? ⟨x.qb, i * 3, none⟩ = some (.int .i64 (what.getD i 0)) ∧ w.cell? ⟨x.qb, i * 3 + 1, none⟩ = some (.int .i64 ((p.code.getD i []).length : Nat)) ∧ w.cell? ⟨x.qb, i * 3 + 2, none⟩ = some (.int .i64 t)
  qf : ∀ o, w.frozen? ⟨x.qb, o, none⟩ = false
  ge : base ≤ cb ∧ base ≤ x.qb
  lt : cb < w.heap.size ∧ x.qb < w.heap.size
  ap : cb ≠ x.qb ∧ cb ∉ x.a.F x.kb ∧ x.qb ∉ x.a.F x.kb
section
variable {w w' : World} {base : Nat} {p : PD} {what : List Int} {most : Int} {d : CD} {cb : Nat} {x : CW}
theorem GC.flt (h : GC w base p what most d cb x) : ∀ g ∈ x.F cb, g < w.heap.size := fun g hg => by
  unfold CW.F at hg
  rcases List.mem_cons.1 hg with h1 | h1
  · rw [h1]; exact h.lt.1
  · rcases List.mem_cons.1 h1 with h2 | h2
    · rw [h2]; exact h.lt.2
    · exact h.k.flt g h2
theorem GC.fge (h : GC w base p what most d cb x) : ∀ g ∈ x.F cb, base ≤ g := fun g hg => by
  unfold CW.F at hg
  rcases List.mem_cons.1 hg with h1 | h1
  · rw [h1]; exact h.ge.1
  · rcases List.mem_cons.1 h1 with h2 | h2
    · rw [h2]; exact h.ge.2
    · exact h.k.ge g h2
/-- Its own block and its row are as they were, its kernel is another one. -/
theorem GC.kern (h : GC w base p what most d cb x) {k' : KD} {a' : GW} (ht : KTouch (x.a.F x.kb) w w') (hk : GK w' base p k' x.kb a') (hn : ∀ g ∈ a'.F x.kb, g ∈ x.a.F x.kb ∨ w.heap.size ≤ g) : GC w' base p what most ⟨k', d.ts⟩ cb { x with a := a' } := by
  have b1 := ht.block cb h.lt.1 h.ap.2.1
  have b2 := ht.block x.qb h.lt.2 h.ap.2.2
  have hc := fun o => World.cell?_of_block (w := w) (w' := w') (a := ⟨cb, o, none⟩) b1
  have hq := fun o => World.cell?_of_block (w := w) (w' := w') (a := ⟨x.qb, o, none⟩) b2
  have hf := fun o => World.frozen?_of_block (w := w) (w' := w') (a := ⟨x.qb, o, none⟩) b2
  have hs := ht.size
  have h1 := h.lt.1
  have h2 := h.lt.2
  refine ⟨(hc 0).trans h.c0, (hc 1).trans h.c1, (hc 2).trans h.c2, hk, fun i t hi => ?_, fun o => (hf o).trans (h.qf o), h.ge, ⟨by omega, by show x.qb < _; omega⟩, ⟨h.ap.1, fun hm => ?_, fun hm => ?_⟩⟩
  · obtain ⟨r0, r1, r2⟩ := h.row i t hi
    exact ⟨(hq _).trans r0, (hq _).trans r1, (hq _).trans r2⟩
  · rcases hn cb hm with e | e
    · exact h.ap.2.1 e
    · omega
  · rcases hn x.qb hm with e | e
    · exact h.ap.2.2 e
    · omega
/-- What is written elsewhere leaves it as it is. -/
theorem GC.frame (h : GC w base p what most d cb x) {M : List Nat} (ht : KTouch M w w') (hM : ∀ m ∈ M, m ∉ x.F cb) : GC w' base p what most d cb x := by
  have m1 : cb ∈ x.F cb := by simp [CW.F]
  have m2 : x.qb ∈ x.F cb := by simp [CW.F]
  have m3 : ∀ g ∈ x.a.F x.kb, g ∈ x.F cb := fun g hg => by simp [CW.F, hg]
  have b1 := ht.block cb h.lt.1 (fun hm => hM _ hm m1)
  have b2 := ht.block x.qb h.lt.2 (fun hm => hM _ hm m2)
  have hc := fun o => World.cell?_of_block (w := w) (w' := w') (a := ⟨cb, o, none⟩) b1
  have hq := fun o => World.cell?_of_block (w := w) (w' := w') (a := ⟨x.qb, o, none⟩) b2
  have hf := fun o => World.frozen?_of_block (w := w) (w' := w') (a := ⟨x.qb, o, none⟩) b2
  have hs := ht.size
  have h1 := h.lt.1
  have h2 := h.lt.2
  refine ⟨(hc 0).trans h.c0, (hc 1).trans h.c1, (hc 2).trans h.c2, h.k.frame ht (fun m hm hd => hM m hm (m3 m hd)), fun i t hi => ?_, fun o => (hf o).trans (h.qf o), h.ge, ⟨by omega, by omega⟩, h.ap⟩
  obtain ⟨r0, r1, r2⟩ := h.row i t hi
  exact ⟨(hq _).trans r0, (hq _).trans r1, (hq _).trans r2⟩
theorem GC.all (h : GC w base p what most d cb x) (hb : Below w.heap.size w w') : GC w' base p what most d cb x := h.frame (M := []) (KTouch.of hb) (by simp)
theorem GC.lower {base' : Nat} (h : GC w base p what most d cb x) (hb : base' ≤ base) : GC w base' p what most d cb x :=
  ⟨h.c0, h.c1, h.c2, h.k.lower hb, h.row, h.qf, ⟨Nat.le_trans hb h.ge.1, Nat.le_trans hb h.ge.2⟩, h.lt, h.ap⟩
/-- A room was helped once more. -/
theorem GC.times (h : GC w base p what most d cb x) {r : Nat} {t : Int} (hr : d.ts[r]? = some t) (t' : Int) : GC (w.setCell ⟨x.qb, r * 3 + 2, none⟩ (.int .i64 t')) base p what most ⟨d.k, d.ts.set r t'⟩ cb x := by
  have hlen := (List.getElem?_eq_some_iff.1 hr).1
  have ht : KTouch [x.qb] w (w.setCell ⟨x.qb, r * 3 + 2, none⟩ (.int .i64 t')) := KTouch.set w (by simp) _ _
  have b1 := ht.block cb h.lt.1 (by simpa using h.ap.1)
  have hc := fun o => World.cell?_of_block (w := w) (w' := w.setCell ⟨x.qb, r * 3 + 2, none⟩ (.int .i64 t')) (a := ⟨cb, o, none⟩) b1
  refine ⟨(hc 0).trans h.c0, by simp only [List.length_set]; exact (hc 1).trans h.c1, (hc 2).trans h.c2, h.k.frame ht (fun m hm => ?_), fun i u hu => ?_, fun o => by simpa using h.qf o, h.ge, by simpa using h.lt, h.ap⟩
  · rw [List.mem_singleton] at hm
    subst hm
    exact h.ap.2.2
  · simp only at hu
    by_cases hir : r = i
    · subst hir
      rw [List.getElem?_set_self hlen] at hu
      obtain rfl := Option.some.inj hu
      obtain ⟨r0, r1, r2⟩ := h.row r t hr
      refine ⟨?_, ?_, ?_⟩
      · rw [setCell_far (by omega)]; exact r0
      · rw [setCell_far (by omega)]; exact r1
      · simp [go_sem, r2]
    · rw [List.getElem?_set_ne hir] at hu
      obtain ⟨r0, r1, r2⟩ := h.row i u hu
      refine ⟨?_, ?_, ?_⟩
      · rw [setCell_far (by omega)]; exact r0
      · rw [setCell_far (by omega)]; exact r1
      · rw [setCell_far (by omega)]; exact r2
end
end Go.Proofs.YtfconbblnmbnpahGreatDoor
namespace Go.Proofs.YtfconbblnmbnpahGreatDoor

/-- Behind so many ticks. -/
def cN (p : PD) (what : List Int) (most : Int) : Nat → CD
  | 0 => newC p
  | n + 1 => tickC p what most (cN p what most n)
theorem cN_ok {p : PD} {what : List Int} {most : Int} (h : carE p what most = 0) : ∀ n, COk p what most (cN p what most n)
  | 0 => newC_ok h
  | n + 1 => tickC_ok (carE_zero h).1 (cN_ok h n)
theorem cN_time (p : PD) (what : List Int) (most : Int) : ∀ n : Nat, (cN p what most n).k.time = n
  | 0 => rfl
  | n + 1 => by
    show (tickK p p.spans (helpC p what most (cN p what most n)).k).1.time = _
    have e : ∀ k : KD, (tickK p p.spans k).1.time = k.time + 1 := fun k => by
      unfold tickK
      simp only
      split <;> rfl
    rw [e, help_time, cN_time p what most n]
    omega
theorem evC_evK (p : PD) (what : List Int) (most : Int) (d : CD) : evC p what most d = evK p (helpC p what most d).k := rfl
/-- What is told of a run. -/
def runC (p : PD) (what : List Int) (most : Int) (n : Nat) : List W4 := (List.range n).map fun t => evC p what most (cN p what most t)
theorem runC_len (p : PD) (what : List Int) (most : Int) (n : Nat) : (runC p what most n).length = n := by simp [runC]
theorem runC_succ (p : PD) (what : List Int) (most : Int) (n : Nat) : runC p what most (n + 1) = runC p what most n ++ [evC p what most (cN p what most n)] := by simp [runC, List.range_succ]
theorem runC_ok {p : PD} {what : List Int} {most : Int} (h : carE p what most = 0) {n : Nat} (hn : n ≤ 2000) : evchk (runC p what most n) = 0 := by
  rw [evchk_zero]
  refine ⟨by rw [runC_len]; exact hn, fun e he => ?_⟩
  unfold runC at he
  obtain ⟨t, ht, rfl⟩ := List.mem_map.1 he
  have := List.mem_range.1 ht
  rw [evC_evK]
  exact evK_ok (carE_zero h).1 (helpC_ok (carE_zero h).1 (cN_ok h t)).k (by rw [help_time, cN_time]; omega)
/-- As many events as turns. -/
theorem runC_of {p : PD} {what : List Int} {most : Int} (r : Int) : ∀ n, (ofR (runC p what most n) r).length = cnR (hasT p.ticks p.spans r) 0 n
  | 0 => rfl
  | n + 1 => by
    have ih := runC_of (p := p) (what := what) (most := most) r n
    rw [runC_succ]
    unfold ofR at ih ⊢
    rw [List.filter_append, List.length_append, ih]
    show _ = cnR (hasT p.ticks p.spans r) 0 n + (if hasT p.ticks p.spans r (0 + n) = true then 1 else 0)
    congr 1
    rw [Nat.zero_add]
    have e1 : decide ((evC p what most (cN p what most n)).2.1 = r) = hasT p.ticks p.spans r n := by
      rw [evC_evK, evK_room, help_who]
      unfold whoK hasT
      rw [cN_time]
    cases hh : hasT p.ticks p.spans r n with
    | true => rw [hh] at e1; simp only [decide_eq_true_eq] at e1; simp [e1]
    | false => rw [hh] at e1; simp only [decide_eq_false_iff_not] at e1; simp [e1]
/-- In as many ticks as it waits for turns it has these, whoever failed. -/
theorem run_has {p : PD} {what : List Int} {most : Int} {r t : Int} {m : Nat} (h : carE p what most = 0) (hw : waitE p.ticks p.spans r t = 0) (hm : WaitIs (hasT p.ticks p.spans r) p.ticks.toNat t.toNat m) : t ≤ ((ofR (runC p what most m) r).length : Int) := by
  have hf := fchk_zero (plchk_zero (carE_zero h).1).2.2.1
  obtain ⟨_, ht0, _, _⟩ := waitE_zero hw
  rw [runC_of]
  have hn : (p.ticks.toNat : Int) = p.ticks := by omega
  have h1 := least_le (p := hasT p.ticks p.spans r) (n := p.ticks.toNat) (by omega) (fun x => by
    have := hasT_per (n := p.ticks.toNat) p.spans r x
    rw [hn] at this
    exact this) 0 m
  have := hm.1
  omega
end Go.Proofs.YtfconbblnmbnpahGreatDoor
namespace Go.Proofs.YtfconbblnmbnpahGreatDoor
open Go.RowKit

/-- The row of a caller's own has grown. -/
theorem ktouch_own {w w2 wa : World} {row : Option Nat} (hb : Below w.heap.size w w2) (hg : w2.grownBy wa row) : KTouch row.toList w wa :=
  ⟨hg.os.trans hb.os, hg.tape.trans hb.tape, hg.output.trans hb.output, Nat.le_trans hb.size hg.size, fun k hk hm => by
    have := hb.size
    exact (hg.block k (by omega) (fun e => hm (by rw [← e]; simp))).trans (hb.block k hk)⟩
/-- The kernel behind t ticks; the row has what was told of them. -/
structure CEv {G : World → Prop} (C : CarN G) (w0 wr : World) (p : PD) (what : List Int) (most : Int) (cb : Nat) (F : List Nat) (B t : Nat) (v : Value) : Prop where
  K : C.K w0 wr p what most (cN p what most t) cb F
  own : wr.ownsRow B 32 4 v t (wrCells (runC p what most t))
  ap : ∀ g, v.ownBlock = some g → g ∉ F
  B1 : w0.heap.size ≤ B
  B2 : B ≤ wr.heap.size
section
variable {G : World → Prop} {C : CarN G} {w0 wr : World} {p : PD} {what : List Int} {most : Int} {cb : Nat} {F : List Nat} {B t : Nat} {v : Value}
theorem CEv.first {w1 : World} (hK : C.K w0 w1 p what most (newC p) cb F) : CEv C w0 w1 p what most cb F w1.heap.size 0 (.slice none 0 0) :=
  ⟨hK, World.ownsRow_nil _ _ _ _, fun g hg => (by cases hg), (C.since hK).size, Nat.le_refl _⟩
/-- A tick: what is told, the kernel then; and the row as it was. -/
theorem cev_tick (hG : G w0) (hc : carE p what most = 0) (ht : t < 1000000) (h : CEv C w0 wr p what most cb F B t v) :
    Calls Tryz.prog 24 #[.pointer (some ⟨cb, 0, none⟩)] wr fun e w' => e = .returned (.agg #[.int .i64 (evC p what most (cN p what most t)).1, .int .i64 (evC p what most (cN p what most t)).2.1, .int .i64 (evC p what most (cN p what most t)).2.2.1, .int .i64 (evC p what most (cN p what most t)).2.2.2]) ∧ ∃ F', C.K w0 w' p what most (cN p what most (t + 1)) cb F' ∧ w'.ownsRow B 32 4 v t (wrCells (runC p what most t)) ∧ (∀ g, v.ownBlock = some g → g ∉ F') ∧ B ≤ w'.heap.size := by
  refine (C.tick hG h.K hc (cN_ok hc t) (by rw [cN_time]; omega)).mono ?_
  rintro e w' ⟨rfl, F', hK', tk, hn⟩
  refine ⟨rfl, F', hK', own_block h.own (fun g hg => ?_), fun g hg hm => ?_, Nat.le_trans h.B2 tk.size⟩
  · exact tk.block _ (h.own.lt g hg).2 (h.ap g hg)
  · rcases hn g hm with h1 | h1
    · exact h.ap g hg h1
    · have := (h.own.lt g hg).2
      omega
/-- The row has one more. -/
theorem cev_more {w3 w5 w8 : World} {v1 : Value} (hK : C.K w0 w3 p what most (cN p what most (t + 1)) cb F) (own : w3.ownsRow B 32 4 v t (wrCells (runC p what most t))) (ap : ∀ g, v.ownBlock = some g → g ∉ F) (hB1 : w0.heap.size ≤ B) (hB2 : B ≤ w3.heap.size) (hb5 : Below w3.heap.size w3 w5) (hg : w5.grownBy w8 v.ownBlock)
    (own8 : w8.ownsRow B 32 4 v1 (t + 1) (wrCells (runC p what most t) ++ [.int .i64 (evC p what most (cN p what most t)).1, .int .i64 (evC p what most (cN p what most t)).2.1, .int .i64 (evC p what most (cN p what most t)).2.2.1, .int .i64 (evC p what most (cN p what most t)).2.2.2])) (hnw : ∀ k, v1.ownBlock = some k → v.ownBlock = some k ∨ w5.heap.size ≤ k) : CEv C w0 w8 p what most cb F B (t + 1) v1 := by
  have tk := ktouch_own hb5 hg
  have hs5 := hb5.size
  have hm1 : ∀ m ∈ v.ownBlock.toList, v.ownBlock = some m := fun m hm => by simpa using hm
  refine ⟨C.frame hK tk (fun m hm => ⟨ap m (hm1 m hm), ?_⟩), ?_, fun g hg2 hm => ?_, hB1, Nat.le_trans hB2 tk.size⟩
  · have := (own.lt m (hm1 m hm)).1
    omega
  · rw [runC_succ, wrCells_snoc]
    exact own8
  · rcases hnw g hg2 with h1 | h1
    · exact ap g h1 hm
    · have := (C.ge hK g hm).2
      omega
end
end Go.Proofs.YtfconbblnmbnpahGreatDoor
namespace Go.Proofs.YtfconbblnmbnpahGreatDoor
open Go.RowKit

set_option maxRecDepth 100000 in
set_option maxHeartbeats 2000000 in
theorem suidx_any (P : Nat → Bool) (g n : Nat) (w : World) (hR : Rw w g n P) (hn2 : n ≤ 40) :
    Calls Tryz.prog 96 #[.slice (some ⟨g, 0, none⟩) n n, .bool true] w fun e w' => (∃ r : Int, e = .returned (.int .i64 r) ∧ decide (0 ≤ r) = decide (0 < cnR P 0 n)) ∧ w' = w := by
  have HC : Hid (∀ i, i < n → w.cell? ⟨g, i, none⟩ = some (.bool (P i))) := hR.2
  clear hR
  go_enter Tryz.func96, Tryz.ntmps96
  go_wp2
  go_loopw [8] (fun i wr => ∃ k : Nat, k ≤ n ∧ i = .int .i64 k ∧ Hid (∀ j, j < k → P (0 + j) = false) ∧ wr = w) (fun i _ => n - (intOf i).toNat)
  case atStart => exact ⟨0, Nat.zero_le _, rfl, fun j hj => by omega, rfl⟩
  case round =>
    obtain ⟨k, hk, rfl, HA, rfl⟩ := hrel
    by_cases hkl : k < n
    · have hki : (k : Int) < (n : Int) := by omega
      have d0 := HC.out k hkl
      cases hb : P k with
      | true =>
        rw [hb] at d0
        have HF : Hid (decide (0 < cnR P 0 n) = true) := by
          show _ = _
          rw [decide_eq_true_eq]
          by_cases h0 : cnR P 0 n = 0
          · have := (cn_zero 0 n).1 h0 k hkl
            rw [Nat.zero_add, hb] at this
            cases this
          · omega
        clear hb
        go_wp2
        go_ret
        exact ⟨⟨_, rfl, by rw [HF.out]; simp⟩, rfl⟩
      | false =>
        rw [hb] at d0
        have HA2 : Hid (∀ j, j < k + 1 → P (0 + j) = false) := fun j hj => by
          by_cases e : j = k
          · subst e; rw [Nat.zero_add]; exact hb
          · exact HA.out j (by omega)
        clear hb HA
        go_wp2
        go_roundw
        case rel => exact ⟨k + 1, by omega, by go_num, HA2, by trivial⟩
        case measure => simp [intOf]; omega
    · obtain rfl : k = n := by omega
      have HF : Hid (decide (0 < cnR P 0 k) = false) := by
        show _ = _
        rw [decide_eq_false_iff_not, (cn_zero 0 k).2 HA.out]
        omega
      go_wp2
      go_ret
      exact ⟨⟨_, rfl, by rw [HF.out]; decide⟩, rfl⟩
set_option maxRecDepth 100000 in
set_option maxHeartbeats 2000000 in
theorem sucon_any (P : Nat → Bool) (g n : Nat) (w : World) (hR : Rw w g n P) (hn2 : n ≤ 40) :
    Calls Tryz.prog 53 #[.slice (some ⟨g, 0, none⟩) n n, .bool true] w fun e w' => e = .returned (.bool (decide (0 < cnR P 0 n))) ∧ w' = w := by
  have h := suidx_any P g n w hR hn2
  obtain ⟨r, hr⟩ : ∃ r, r = decide (0 < cnR P 0 n) := ⟨_, rfl⟩
  rw [← hr] at h ⊢
  clear hr hR
  go_enter Tryz.func53, Tryz.ntmps53
  go_wp2_with (go_at_call 96; refine h.mono ?_; rintro e w1 ⟨⟨q, rfl, hq⟩, rfl⟩; clear h)
  go_ret
  exact ⟨rfl, rfl⟩
end Go.Proofs.YtfconbblnmbnpahGreatDoor
namespace Go.Proofs.YtfconbblnmbnpahGreatDoor
open Go.RowKit

set_option maxRecDepth 100000 in
set_option maxHeartbeats 2000000 in
theorem suuntil_any (P : Nat → Bool) (g n f t : Nat) (w : World) (hR : Rw w g n P) (hn : 0 < n) (hn2 : n ≤ 40) (hp : ∀ x, P (x + n) = P x) (hf : f ≤ 2000) (ht : t ≤ 100) (hsome : t ≠ 0 → 0 < cnR P 0 n) :
    Calls Tryz.prog 54 #[.slice (some ⟨g, 0, none⟩) n n, .int .i64 f, .int .i64 t] w fun e w' => ∃ s : Nat, e = .returned (.int .i64 (s : Nat)) ∧ s ≤ 4000 ∧ OneW P f t s ∧ w' = w := by
  have HH : Hid (∀ t : Nat, Calls Tryz.prog 97 #[.slice (some ⟨g, 0, none⟩) n n, .int .i64 t] w fun e w' => e = .returned (.bool (P t)) ∧ w' = w) := fun t => suhas_any P g n t w hR hn hn2 hp
  have hen : t ≤ cnR P f (t * n) := by
    by_cases h0 : t = 0
    · omega
    · have h2 := cn_frames hp f t 0
      rw [Nat.add_zero] at h2
      have h3 : t ≤ t * cnR P 0 n := Nat.le_mul_of_pos_right t (hsome h0)
      omega
  have hb : t * n ≤ 4000 := Nat.mul_le_mul ht hn2
  have hmul : (t : Int) * (n : Int) = ((t * n : Nat) : Int) := (Int.natCast_mul t n).symm
  have HEN : Hid (t ≤ cnR P f (t * n)) := hen
  obtain ⟨E, hE⟩ : ∃ E, E = t * n := ⟨_, rfl⟩
  rw [← hE] at HEN hb hmul
  clear hR hp hsome hen hE
  go_enter Tryz.func54, Tryz.ntmps54
  go_wp2
  go_loopw [8, 15] (fun s8 s15 wr => ∃ k : Nat, k ≤ E ∧ s15 = .int .i64 k ∧ (∃ c : Nat, s8 = .int .i64 c ∧ Hid (c = cnR P f k) ∧ c ≤ k) ∧ Hid (∀ x, x < k → cnR P f x < t) ∧ wr = w) (fun _ s15 _ => E - (intOf s15).toNat)
  case atStart => exact ⟨0, Nat.zero_le _, rfl, ⟨0, rfl, rfl, Nat.le_refl _⟩, fun x hx => by omega, rfl⟩
  case round =>
    obtain ⟨k, hk, rfl, ⟨c, rfl, HC, hc⟩, HX, rfl⟩ := hrel
    by_cases hkm : k < E
    · have hki : (k : Int) < (E : Int) := by omega
      cases hct : ((c : Int) == (t : Int)) with
      | true =>
        have HO : Hid (OneW P f t k) := ⟨by have := eq_of_beq hct; have := HC.out; omega, HX.out⟩
        clear HH
        go_wp2
        go_ret
        exact ⟨k, rfl, by omega, HO.out, rfl⟩
      | false =>
        have hct' : ¬ (c = t) := fun e => by rw [e] at hct; simp at hct
        have hclt : c < t := by
          have h1 := HC.out
          by_cases hk0 : k = 0
          · subst hk0
            have : cnR P f 0 = 0 := rfl
            omega
          · have h2 := HX.out (k - 1) (by omega)
            have h3 := (cn_step P f (k - 1)).2
            rw [show k - 1 + 1 = k by omega] at h3
            omega
        have HX2 : Hid (∀ x, x < k + 1 → cnR P f x < t) := fun x hx => by
          by_cases e : x = k
          · subst e; have := HC.out; omega
          · exact HX.out x (by omega)
        clear HX hct'
        have hq := HH.out (f + k)
        rw [show ((f + k : Nat) : Int) = (f : Int) + (k : Int) by omega] at hq
        have hs : cnR P f (k + 1) = cnR P f k + if P (f + k) = true then 1 else 0 := rfl
        cases hb2 : P (f + k) with
        | true =>
          rw [hb2, if_pos rfl, ← HC.out] at hs
          rw [hb2] at hq
          have HS : Hid (cnR P f (k + 1) = c + 1) := hs
          clear hs hb2
          go_wp2_with (go_at_call 97; refine hq.mono ?_; rintro e w1 ⟨rfl, rfl⟩; clear hq)
          go_roundw
          case rel => exact ⟨k + 1, by omega, by go_num, ⟨c + 1, by go_num, HS.out.symm, by omega⟩, HX2, by trivial⟩
          case measure => simp [intOf]; omega
        | false =>
          rw [hb2, if_neg (by simp), Nat.add_zero, ← HC.out] at hs
          rw [hb2] at hq
          have HS : Hid (cnR P f (k + 1) = c) := hs
          clear hs hb2
          go_wp2_with (go_at_call 97; refine hq.mono ?_; rintro e w1 ⟨rfl, rfl⟩; clear hq)
          go_roundw
          case rel => exact ⟨k + 1, by omega, by go_num, ⟨c, by trivial, HS.out.symm, by omega⟩, HX2, by trivial⟩
          case measure => simp [intOf]; omega
    · obtain rfl : k = E := by omega
      clear HH
      go_wp2
      go_ret
      exact ⟨k, rfl, by omega, ⟨HEN.out, HX.out⟩, rfl⟩
end Go.Proofs.YtfconbblnmbnpahGreatDoor
namespace Go.Proofs.YtfconbblnmbnpahGreatDoor
open Go.RowKit

/-- Its plan. -/
def setP : PD := ⟨[[(1, 2, 7)]], 1, [(0, 1, 0)], []⟩
theorem setP_ok : plchk setP = 0 := by decide +kernel
theorem setP_c : (roomK (tickK setP setP.spans (newK setP)).1 0).c 2 = 7 := by decide +kernel
theorem setP_r : noRoom (tickK setP setP.spans (newK setP)).1 0 = false := by decide +kernel
/-- It lies in the world. -/
theorem setP_pln (W : World) (n : Nat) (hn : n = W.heap.size) : Pln (((W.alloc (.cells #[.int .i64 1, .int .i64 2, .int .i64 7] 114)).alloc (.cells #[.slice (some ⟨n, 0, none⟩) 1 1] 78)).alloc (.cells #[.int .i64 0, .int .i64 1, .int .i64 0] 74)) (.slice (some ⟨n + 1, 0, none⟩) 1 1) (.slice (some ⟨n + 2, 0, none⟩) 1 1) (.slice none 0 0) setP := by
  subst hn
  refine ⟨Or.inr ⟨_, 0, 1, rfl, Nat.le_refl _, by simp, fun i c hi => ?_⟩, Or.inr ⟨_, 0, 1, rfl, Nat.le_refl _, by simp, fun i s hi => ?_⟩, Or.inl ⟨rfl, _, _, rfl⟩⟩
  · match i, hi with
    | 0, hi =>
      simp [setP] at hi
      subst hi
      refine ⟨.slice (some ⟨W.heap.size, 0, none⟩) 1 1, by simp [go_sem], Or.inr ⟨W.heap.size, 0, 1, rfl, by simp; omega, fun j o ho => ?_⟩⟩
      match j, ho with
      | 0, ho => simp at ho; subst ho; simp [go_sem]
      | j + 1, ho => simp at ho
    | i + 1, hi => simp [setP] at hi
  · match i, hi with
    | 0, hi => simp [setP] at hi; subst hi; simp [go_sem]
    | i + 1, hi => simp [setP] at hi
set_option maxRecDepth 100000 in
set_option maxHeartbeats 8000000 in
theorem topone_any {G : World → Prop} (C : KerC G) (w : World) (hG : G w) : Calls Tryz.prog 21 #[] w fun e w' => e = .returned (.bool true) ∧ Below w.heap.size w w' := by
  have hpl := setP_pln w w.heap.size rfl
  have hB0 : Below w.heap.size w (((w.alloc (.cells #[.int .i64 1, .int .i64 2, .int .i64 7] 114)).alloc (.cells #[.slice (some ⟨w.heap.size, 0, none⟩) 1 1] 78)).alloc (.cells #[.int .i64 0, .int .i64 1, .int .i64 0] 74)) := (((Below.refl _ _).alloc (Nat.le_refl _) _).alloc (by simp) _).alloc (by simp; omega) _
  have hN := C.new setP _ _ _ _ (C.all _ _ hG hB0) hpl setP_ok
  have HK : Hid (∀ W w1 kb F, G W → C.K W w1 setP (.slice (some ⟨w.heap.size + 1, 0, none⟩) 1 1) (.slice (some ⟨w.heap.size + 2, 0, none⟩) 1 1) (.slice none 0 0) (newK setP) kb F → Calls Tryz.prog 26 #[.pointer (some ⟨kb, 0, none⟩)] w1 fun e w2 => (∃ v, e = .returned v) ∧ Below W.heap.size W w2 ∧ Calls Tryz.prog 49 #[.pointer (some ⟨kb, 0, none⟩), .int .i64 0] w2 fun e w3 => ∃ s : St, e = .returned (.tuple #[.agg #[.int .i64 s.p, .int .i64 (s.c 0), .int .i64 (s.c 1), .int .i64 7, .int .i64 (s.c 3), .int .i64 (s.c 4), .int .i64 (s.c 5), .bool s.f], .nilIface]) ∧ Below w2.heap.size w2 w3) := fun W w1 kb F hW hK => by
    refine (C.tick hW hK setP_ok (new_ok setP_ok) (by decide)).mono ?_
    rintro e w2 ⟨rfl, F', hK2, tk, _⟩
    refine ⟨⟨_, rfl⟩, C.since hK2, (C.state 0 hK2 (tick_ok setP_ok (new_ok setP_ok)) setP_ok).mono ?_⟩
    rintro e w3 ⟨rfl, b3⟩
    refine ⟨roomK (tickK setP setP.spans (newK setP)).1 0, ?_, b3⟩
    rw [setP_r]
    unfold stA
    rw [setP_c]
    rfl
  have HG : Hid (G w) := hG
  clear hG hpl
  unfold plV at hN
  rw [show setP.ticks = 1 from rfl] at hN
  go_enter Tryz.func21, Tryz.ntmps21
  go_upto_region 4 with (go_at_call 25; refine hN.mono ?_; rintro e w1 ⟨kb, F, rfl, hK⟩)
  have q := HK.out _ w1 kb F (C.all _ _ HG.out hB0) hK
  have hbq := hB0
  generalize ((w.alloc (.cells #[.int .i64 1, .int .i64 2, .int .i64 7] 114)).alloc (.cells #[.slice (some ⟨w.heap.size, 0, none⟩) 1 1] 78)).alloc (.cells #[.int .i64 0, .int .i64 1, .int .i64 0] 74) = W0 at q hbq
  clear hN hK HK hB0
  go_upto_region 5 with (go_at_call 26; refine q.mono ?_; rintro e w2 ⟨⟨v, rfl⟩, b2, q3⟩; clear q)
  go_wp2_with (go_at_call 49; refine q3.mono ?_; rintro e w3 ⟨s, rfl, b3⟩; clear q3)
  go_ret
  have hb3 := hbq.trans ((b2.trans (b3.mono b2.size)).mono hbq.size)
  exact ⟨rfl, hb3.alloc hb3.size _⟩
end Go.Proofs.YtfconbblnmbnpahGreatDoor
namespace Go.Proofs.YtfconbblnmbnpahGreatDoor
open Go.RowKit

set_option maxRecDepth 100000 in
set_option maxHeartbeats 16000000 in
theorem topwaits_of {G : World → Prop} (CK : KerC G) (CC : CarN G) (hW : SupWait G) (hO : TrcOf G) (hP : TrcPrint G) (hQ : TrcParse G)
    (p : PD) (vc vs vw wv : Value) (what : List Int) (r turns : Int) (w : World) (hG : G w) (hPl : Pln w vc vs vw p) (hwv : Stp w wv what) :
    Calls Tryz.prog 5 #[plV vc p.ticks vs vw, wv, .int .i64 r, .int .i64 turns] w fun e w' => e = .returned (.bool true) ∧ Below w.heap.size w w' := by
  obtain ⟨ca, cc, rfl⟩ := hPl.code.form
  obtain ⟨sa, sc, rfl⟩ := hPl.spans.form
  obtain ⟨wa, wc', rfl⟩ := hPl.wires.form
  obtain ⟨ta, tc, rfl⟩ := hwv.form
  have hx0 := Bx.first w (.slice ca p.code.length cc) p.ticks (.slice sa p.spans.length sc) (.slice wa p.wires.length wc')
  have H1 : Hid (∀ W, Below w.heap.size w W → Calls Tryz.prog 21 #[] W fun e w' => e = .returned (.bool true) ∧ Below W.heap.size W w') := fun W hb => topone_any CK W (CK.all _ _ hG hb)
  have HN : Hid (∀ W, Below w.heap.size w W → carE p what 100 = 0 → Calls Tryz.prog 22 #[.agg #[.slice ca p.code.length cc, .int .i64 p.ticks, .slice sa p.spans.length sc, .slice wa p.wires.length wc'], .slice ta what.length tc, .int .i64 100] W fun e w' => ∃ cb F, e = .returned (.tuple #[.pointer (some ⟨cb, 0, none⟩), .nilIface]) ∧ Hid (CC.K W w' p what 100 (newC p) cb F)) := fun W hb hc => CC.new p _ _ _ _ what 100 W (CC.all _ _ hG hb) (hPl.all hb) (hwv.every hb) hc
  have HNo : Hid (∀ W, Below w.heap.size w W → carE p what 100 ≠ 0 → Calls Tryz.prog 22 #[.agg #[.slice ca p.code.length cc, .int .i64 p.ticks, .slice sa p.spans.length sc, .slice wa p.wires.length wc'], .slice ta what.length tc, .int .i64 100] W fun e w' => ∃ x, e = .returned (.tuple #[.pointer x, .iface 91 (.int .i64 (carE p what 100))]) ∧ Below W.heap.size W w') := fun W hb hc => by
    have := CC.no p _ _ _ _ what 100 W (CC.all _ _ hG hb) (hPl.all hb) (hwv.every hb) hc
    rw [wErr_not hc] at this
    exact this
  have HWt : Hid (∀ W, Below w.heap.size w W → Calls Tryz.prog 23 #[.int .i64 p.ticks, .slice sa p.spans.length sc, .int .i64 r, .int .i64 turns] W fun e w' => ∃ m : Nat, e = .returned (.tuple #[.int .i64 (m : Int), wErr (waitE p.ticks p.spans r turns)]) ∧ Hid (waitE p.ticks p.spans r turns = 0 → WaitIs (hasT p.ticks p.spans r) p.ticks.toNat turns.toNat m) ∧ Below W.heap.size W w') := fun W hb => by
    refine (hW p.ticks p.spans _ r turns W (CC.all _ _ hG hb) (hPl.spans.all hb)).mono ?_
    rintro e w' ⟨m, rfl, h1, _, h3⟩
    exact ⟨m, rfl, h1, h3⟩
  have HO : Hid (∀ l v W, Below w.heap.size w W → Wrs W v l → evchk l = 0 → -1 ≤ r ∧ r ≤ 4 → Calls Tryz.prog 18 #[v, .int .i64 r] W fun e w' => ∃ ua uc, e = .returned (.tuple #[.slice ua (ofR l r).length uc, .nilIface]) ∧ Below W.heap.size W w') := fun l v W hb hl h hr => by
    refine (hO l v r W (CC.all _ _ hG hb) hl).mono ?_
    rintro e w' ⟨u, rfl, hu, hb⟩
    have e0 : ofE l r = 0 := by unfold ofE; rw [if_pos h, if_neg (by omega)]
    unfold ofV at hu
    rw [if_pos e0] at hu
    obtain ⟨ua, uc, rfl⟩ := hu.form
    exact ⟨ua, uc, by rw [e0]; rfl, hb⟩
  have HPr : Hid (∀ l v W, Below w.heap.size w W → Wrs W v l → evchk l = 0 → Calls Tryz.prog 15 #[v] W fun e w' => e = .returned (.tuple #[.string ⟨(evB l).toArray⟩, .nilIface]) ∧ Below W.heap.size W w') := fun l v W hb hl h => by
    have := hP l v W (CC.all _ _ hG hb) hl
    unfold evTx at this
    rw [if_pos h, h] at this
    exact this
  have HPa : Hid (∀ l W, Below w.heap.size w W → evchk l = 0 → Calls Tryz.prog 20 #[.string ⟨(evB l).toArray⟩] W fun e w' => ∃ ua uc, e = .returned (.tuple #[.slice ua l.length uc, .nilIface]) ∧ Hid (Wrs w' (.slice ua l.length uc) l) ∧ Below W.heap.size W w') := fun l W hb h => by
    have hsz : (⟨(evB l).toArray⟩ : ByteArray).size ≤ 1099511627776 := by
      show (evB l).toArray.size ≤ _
      have := evB_len h
      simp only [List.size_toArray]
      omega
    refine (hQ ⟨(evB l).toArray⟩ W (CC.all _ _ hG hb) (Nat.le_trans hsz (by decide))).mono ?_
    rintro e w' ⟨u, rfl, hu, hb⟩
    have e0 : (⟨(evB l).toArray⟩ : ByteArray).data.toList = evB l := by simp
    rw [e0, ev_read h] at hu
    obtain ⟨ua, uc, rfl⟩ := hu.form
    exact ⟨ua, uc, by rw [e0, ev_read h]; rfl, hu, hb⟩
  have HG : Hid (G w) := hG
  unfold plV
  clear hW hO hP hQ hPl hwv hG
  go_enter Tryz.func5, Tryz.ntmps5
  go_upto_region 4 with (go_at_call 21; refine (H1.out _ hx0.below).mono ?_; rintro e w1 ⟨rfl, b1⟩)
  have hx1 := hx0.step b1
  clear hx0 b1 H1
  have k0 := hx1.c0
  have k1 := hx1.c1
  have k2 := hx1.c2
  have k3 := hx1.c3
  by_cases hc : carE p what 100 = 0
  case neg =>
    have q := HNo.out w1 hx1.below hc
    generalize carE p what 100 = ec at q hc
    clear HN HNo HWt HO HPr HPa
    go_wp2_with (go_at_call 22; refine q.mono ?_; rintro e w2 ⟨x, rfl, b2⟩; clear q)
    go_ret
    exact ⟨rfl, (hx1.step b2).below⟩
  have q := HN.out w1 hx1.below hc
  clear HN HNo
  have HC : Hid (carE p what 100 = 0) := hc
  clear hc
  go_upto_region 7 with (go_at_call 22; refine q.mono ?_; rintro e w2 ⟨cb, F, rfl, hK⟩; clear q)
  have hx2 := hx1.step (CC.since hK.out)
  have HG1 : Hid (G w1) := CC.all _ _ HG.out hx1.below
  clear k0 k1 k2 k3
  have k1 := hx2.c1
  have k2 := hx2.c2
  have q := HWt.out w2 hx2.below
  go_upto_region 8 with (go_at_call 23; refine q.mono ?_; rintro e w3 ⟨m, rfl, hm, b3⟩; clear q)
  have hx3 := hx2.step b3
  have HK3 : Hid (CC.K w1 w3 p what 100 (newC p) cb F) := CC.frame hK.out (KTouch.of (M := []) b3) (by simp)
  clear hK b3 k1 k2 HWt hx2
  by_cases hwe : waitE p.ticks p.spans r turns = 0
  case neg =>
    rw [wErr_not hwe]
    generalize waitE p.ticks p.spans r turns = ec at hwe hm
    clear HO HPr HPa hm HK3
    go_wp2_with fail
    go_ret
    exact ⟨rfl, hx3.below⟩
  rw [hwe, show wErr 0 = .nilIface from rfl]
  have HM : Hid (turns ≤ ((ofR (runC p what 100 m) r).length : Int)) := run_has HC.out hwe (hm.out hwe)
  have hsr : -1 ≤ r ∧ r ≤ 4 := by
    have := supE_zero (waitE_zero hwe).1
    omega
  clear hwe hm
  by_cases hmm : 300 < m
  · have hmi : decide (300 < (m : Int)) = true := decide_eq_true (by omega)
    clear HO HPr HPa HK3
    go_wp2_with fail
    go_ret
    exact ⟨rfl, hx3.below⟩
  have hmi : decide (300 < (m : Int)) = false := decide_eq_false (by omega)
  have hmn : decide (300 < m) = false := decide_eq_false (by omega)
  have hm300 : m ≤ 300 := by omega
  clear hmm
  go_upto_region 12 with fail
  go_loopw [13, 14] (fun l i wr => ∃ (j : Nat) (F' : List Nat), j ≤ m ∧ i = .int .i64 j ∧ CEv CC w1 wr p what 100 cb F' w3.heap.size j l) (fun _ i _ => m - (intOf i).toNat)
  case atStart => exact ⟨0, F, Nat.zero_le _, rfl, CEv.first HK3.out⟩
  case round =>
    obtain ⟨j, F', hjm, rfl, hcev⟩ := hrel
    by_cases hj : j < m
    · have hji : (j : Int) < (m : Int) := by omega
      have HCE : Hid (CEv CC w1 wr p what 100 cb F' w3.heap.size j u13) := hcev
      have q := cev_tick HG1.out HC.out (show j < 1000000 by omega) hcev
      obtain ⟨t1, ht1⟩ : ∃ y, (evC p what 100 (cN p what 100 j)).1 = y := ⟨_, rfl⟩
      obtain ⟨t2, ht2⟩ : ∃ y, (evC p what 100 (cN p what 100 j)).2.1 = y := ⟨_, rfl⟩
      obtain ⟨t3, ht3⟩ : ∃ y, (evC p what 100 (cN p what 100 j)).2.2.1 = y := ⟨_, rfl⟩
      obtain ⟨t4, ht4⟩ : ∃ y, (evC p what 100 (cN p what 100 j)).2.2.2 = y := ⟨_, rfl⟩
      rw [ht1, ht2, ht3, ht4] at q
      have HT : Hid ((evC p what 100 (cN p what 100 j)).1 = t1 ∧ (evC p what 100 (cN p what 100 j)).2.1 = t2 ∧ (evC p what 100 (cN p what 100 j)).2.2.1 = t3 ∧ (evC p what 100 (cN p what 100 j)).2.2.2 = t4) := ⟨ht1, ht2, ht3, ht4⟩
      clear hcev ht1 ht2 ht3 ht4
      go_upto_region 15 with (go_at_call 24; refine q.mono ?_; rintro e w5 ⟨rfl, F2, hK5, own5, ap5, hB5⟩; clear q)
      have b6 : Below w5.heap.size w5 ((w5.alloc (.cells #[.int .i64 t1, .int .i64 t2, .int .i64 t3, .int .i64 t4] 32)).alloc (.cells #[.int .i64 t1, .int .i64 t2, .int .i64 t3, .int .i64 t4] 32)) := ((Below.refl _ _).alloc (Nat.le_refl _) _).alloc (by simp) _
      obtain ⟨iT, hiT, hz1, hz2, hz3⟩ := info3 infoEv
      have hro := own_below own5 b6 (Nat.le_refl _)
      have hs6 := b6.size
      obtain ⟨v9, w9, hra, hown9, hgr9, hnw9⟩ := run_append_at (P := Tryz.prog) ((w5.alloc (.cells #[.int .i64 t1, .int .i64 t2, .int .i64 t3, .int .i64 t4] 32)).alloc (.cells #[.int .i64 t1, .int .i64 t2, .int .i64 t3, .int .i64 t4] 32)) 27 27 w3.heap.size 32 iT _ 4 32 (by kernel_rfl) hiT hz1 hz2 hz3 rfl (by decide) u13 j (wrCells (runC p what 100 j)) hro ⟨w5.heap.size + 1, 0, none⟩ 1 1 [.int .i64 t1, .int .i64 t2, .int .i64 t3, .int .i64 t4] rfl (wr_new (by simp) _ _ _ _ _) (by simp [Value.oneCell']) (by have : maxLen = 9223372036854775807 := rfl; omega) (by omega) (by omega)
      clear hiT hz1 hz2 hz3
      obtain ⟨g9, c9, rfl⟩ : ∃ g cap, v9 = .slice (some ⟨g, 0, none⟩) (j + 1) cap := own_succ hown9
      have HR : Hid (CEv CC w1 w9 p what 100 cb F2 w3.heap.size (j + 1) (.slice (some ⟨g9, 0, none⟩) (j + 1) c9)) := by
        obtain ⟨e1, e2, e3, e4⟩ := HT.out
        exact cev_more hK5 own5 ap5 HCE.out.B1 hB5 b6 hgr9 (by rw [e1, e2, e3, e4]; exact hown9) hnw9
      clear hown9 hgr9 hnw9 hro own5 ap5 hK5
      obtain ⟨la, ln, lc, rfl⟩ := own_form HCE.out.own
      clear HCE
      go_wp2_with (at_builtin; refine wpList_append_eq rfl _ _ 27 rfl (.slice la ln lc) (.slice (some ⟨w5.heap.size + 1, 0, none⟩) 1 1) rfl rfl (.slice (some ⟨g9, 0, none⟩) (j + 1) c9) w9 hra ?_)
      go_roundw
      case rel => exact ⟨j + 1, F2, hj, by go_num, HR.out⟩
      case measure => simp [intOf]; omega
    · have hji : decide ((j : Int) < (m : Int)) = false := decide_eq_false (by omega)
      have hjn : decide (j < m) = false := decide_eq_false (by omega)
      obtain rfl : j = m := by omega
      have hb4 : Below w.heap.size w wr := hx1.below.trans ((CC.since hcev.K).mono hx1.below.size)
      have hEv : evchk (runC p what 100 j) = 0 := runC_ok HC.out (by omega)
      have hlen : (runC p what 100 j).length = j := runC_len _ _ _ _
      have hown : wr.ownsRow w3.heap.size 32 4 u13 (runC p what 100 j).length (wrCells (runC p what 100 j)) := by rw [hlen]; exact hcev.own
      have HW : Hid (Wrs wr u13 (runC p what 100 j)) := evs_of_own hown
      have HS : Hid (∀ va W, Below wr.heap.size wr W → Wrs W va (runC p what 100 j) → Calls Tryz.prog 12 #[va, u13] W fun e w' => e = .returned (.bool true) ∧ Below W.heap.size W w') := fun va W hb hv => sameev_any va u13 (runC p what 100 j) W hv (HW.out.all hb) (by rw [hlen]; omega)
      have hg : decide (turns ≤ ((ofR (runC p what 100 j) r).length : Int)) = true := decide_eq_true HM.out
      have q1 := HO.out _ u13 wr hb4 HW.out hEv hsr
      have q2 := fun W hb => HPr.out (runC p what 100 j) u13 W (hb4.trans (hb.mono hb4.size)) (HW.out.all hb) hEv
      have q3 := fun W hb => HPa.out (runC p what 100 j) W hb hEv
      have Q2 : Hid (∀ W, Below wr.heap.size wr W → Calls Tryz.prog 15 #[u13] W fun e w' => e = .returned (.tuple #[.string ⟨(evB (runC p what 100 j)).toArray⟩, .nilIface]) ∧ Below W.heap.size W w') := q2
      have Q3 : Hid (∀ W, Below w.heap.size w W → Calls Tryz.prog 20 #[.string ⟨(evB (runC p what 100 j)).toArray⟩] W fun e w' => ∃ ua uc, e = .returned (.tuple #[.slice ua (runC p what 100 j).length uc, .nilIface]) ∧ Hid (Wrs w' (.slice ua (runC p what 100 j).length uc) (runC p what 100 j)) ∧ Below W.heap.size W w') := q3
      clear q2 q3 HO HPr HPa hown hEv HM hlen
      generalize (⟨(evB (runC p what 100 j)).toArray⟩ : ByteArray) = tx at Q2 Q3
      generalize (ofR (runC p what 100 j) r).length = ol at q1 hg
      generalize runC p what 100 j = es at HW HS Q3
      obtain ⟨la, ln, lc, rfl⟩ := own_form hcev.own
      clear hcev
      go_upto_region 17 with (go_at_call 18; refine q1.mono ?_; rintro e w5 ⟨oa, oc, rfl, b5⟩; clear q1)
      go_upto_region 18 with (go_at_call 15; refine (Q2.out w5 b5).mono ?_; rintro e w6 ⟨rfl, b6⟩; clear Q2)
      have b56 := b5.trans (b6.mono b5.size)
      have hb6 := hb4.trans (b56.mono hb4.size)
      go_upto_region 19 with (go_at_call 20; refine (Q3.out w6 hb6).mono ?_; rintro e w7 ⟨xa, xc, rfl, HX, b7⟩; clear Q3)
      have b57 := b56.trans (b7.mono b56.size)
      have q := HS.out _ w7 b57 HX.out
      go_wp2_with (go_at_call 12; refine q.mono ?_; rintro e w8 ⟨rfl, b8⟩; clear q)
      go_ret
      exact ⟨rfl, hb6.trans ((b7.trans (b8.mono b7.size)).mono hb6.size)⟩
end Go.Proofs.YtfconbblnmbnpahGreatDoor
namespace Go.Proofs.YtfconbblnmbnpahGreatDoor
open Go.RowKit

set_option maxRecDepth 100000 in
set_option maxHeartbeats 1000000 in
theorem sumine_any (s : S3) (rb tb : Nat) (r t : Int) (w : World) (hr : w.cell? ⟨rb, 0, none⟩ = some (.int .i64 r)) (ht : w.cell? ⟨tb, 0, none⟩ = some (.int .i64 t)) :
    Calls Tryz.prog 95 #[.agg #[.int .i64 s.1, .int .i64 s.2.1, .int .i64 s.2.2], .pointer (some ⟨rb, 0, none⟩), .pointer (some ⟨tb, 0, none⟩)] w fun e w' => e = .returned (.bool (mine r t s)) ∧ Below w.heap.size w w' := by
  have hlt := ltc ht
  have hlr := ltc hr
  have hn : tb ≠ w.heap.size := by omega
  have hn2 : rb ≠ w.heap.size := by omega
  obtain ⟨a, b, q⟩ := s
  simp only
  cases h0 : (q == r) with
  | false =>
    have HF : Hid (mine r t (a, b, q) = false) := by
      show _ = _
      have : ¬ q = r := fun e => by rw [e] at h0; simp at h0
      simp [mine, this]
    go_enter Tryz.func95, Tryz.ntmps95
    go_wp2
    go_ret
    exact ⟨retB HF.out.symm, (Below.refl _ _).alloc (Nat.le_refl _) _⟩
  | true =>
    have hqr := eq_of_beq h0
    by_cases h1 : a ≤ t
    · by_cases h2 : t < b
      · have HF : Hid (mine r t (a, b, q) = true) := by show _ = _; simp [mine, h1, h2, hqr]
        clear hqr
        go_enter Tryz.func95, Tryz.ntmps95
        go_wp2
        go_ret
        exact ⟨retB HF.out.symm, (Below.refl _ _).alloc (Nat.le_refl _) _⟩
      · have h2' : decide (t < b) = false := by simpa using h2
        have HF : Hid (mine r t (a, b, q) = false) := by show _ = _; simp [mine, h2]
        clear hqr
        go_enter Tryz.func95, Tryz.ntmps95
        go_wp2
        go_ret
        exact ⟨retB HF.out.symm, (Below.refl _ _).alloc (Nat.le_refl _) _⟩
    · have h1' : decide (a ≤ t) = false := by simpa using h1
      have HF : Hid (mine r t (a, b, q) = false) := by show _ = _; simp [mine, h1]
      clear hqr
      go_enter Tryz.func95, Tryz.ntmps95
      go_wp2
      go_ret
      exact ⟨retB HF.out.symm, (Below.refl _ _).alloc (Nat.le_refl _) _⟩
set_option maxRecDepth 100000 in
set_option maxHeartbeats 2000000 in
theorem idxMine (l : List S3) (r t : Int) (b off cap rb tb : Nat) (w : World) (k0 : w.cell? ⟨rb, 0, none⟩ = some (.int .i64 r)) (k1 : w.cell? ⟨tb, 0, none⟩ = some (.int .i64 t)) (hlen : l.length ≤ 12) (hlt : b < w.heap.size) (hc : SpC w b off l) :
    Calls Tryz.prog 130 #[.slice (some ⟨b, off, none⟩) l.length cap, .func (.func 95) #[] #[.pointer (some ⟨rb, 0, none⟩), .pointer (some ⟨tb, 0, none⟩)]] w fun e w' =>
      (∃ q : Int, e = .returned (.int .i64 q) ∧ decide (0 ≤ q) = l.any (mine r t)) ∧ Below w.heap.size w w' := by
  have hlt0 := ltc k0
  have hlt1 := ltc k1
  go_enter Tryz.func130, Tryz.ntmps130
  go_wp2
  go_loopw [8] (fun i wr => ∃ k : Nat, k ≤ l.length ∧ i = .int .i64 k ∧ (∀ (j : Nat) x, j < k → l[j]? = some x → mine r t x = false) ∧ Below w.heap.size w wr) (fun i _ => l.length - (intOf i).toNat)
  case atStart => exact ⟨0, Nat.zero_le _, rfl, fun j x hj => by omega, Below.refl _ _⟩
  case round =>
    obtain ⟨k, hk, rfl, hall, hb⟩ := hrel
    have e0 : wr.cell? ⟨rb, 0, none⟩ = some (.int .i64 r) := (hb.cell (p := ⟨rb, 0, none⟩) hlt0).trans k0
    have e1 : wr.cell? ⟨tb, 0, none⟩ = some (.int .i64 t) := (hb.cell (p := ⟨tb, 0, none⟩) hlt1).trans k1
    have Hall : Hid (∀ (j : Nat) x, j < k → l[j]? = some x → mine r t x = false) := hall
    clear hall
    by_cases hkl : k < l.length
    · obtain ⟨o, ho⟩ : ∃ o, l[k]? = some o := ⟨l[k], List.getElem?_eq_getElem hkl⟩
      have HO : Hid (l[k]? = some o) := ho
      obtain ⟨c0, c1, c2⟩ := hc.below hb hlt k o ho
      clear ho
      have hon := sumine_any o rb tb r t wr e0 e1
      clear e0 e1
      cases hok : mine r t o with
      | false =>
        have HN : Hid (mine r t o = false) := hok
        rw [hok] at hon
        clear hok
        go_wp2_with (go_at_call 95; refine hon.mono ?_; rintro e w1 ⟨rfl, b1⟩; clear hon)
        go_roundw
        case rel =>
          refine ⟨k + 1, by omega, by go_num, fun j x hj hx => ?_, hb.trans (b1.mono hb.size)⟩
          by_cases hjk : j < k
          · exact Hall.out j x hjk hx
          · obtain rfl : j = k := by omega
            rw [HO.out] at hx
            obtain rfl := Option.some.inj hx
            exact HN.out
        case measure => simp [intOf]; omega
      | true =>
        have HF : Hid (l.any (mine r t) = true) := fc_hit HO.out hok
        rw [hok] at hon
        clear hok
        go_wp2_with (go_at_call 95; refine hon.mono ?_; rintro e w1 ⟨rfl, b1⟩; clear hon)
        go_ret
        exact ⟨⟨_, rfl, by rw [HF.out]; simp⟩, hb.trans (b1.mono hb.size)⟩
    · have HF : Hid (l.any (mine r t) = false) := any_miss (fun i x hi hx => Hall.out i x (by omega) hx)
      clear e0 e1
      go_wp2
      go_ret
      exact ⟨⟨_, rfl, by rw [HF.out]; simp⟩, hb⟩
set_option maxRecDepth 100000 in
set_option maxHeartbeats 2000000 in
theorem idxMine_nil (fn : Value) (a : Option Addr) (cap : Nat) (w : World) :
    Calls Tryz.prog 130 #[.slice a 0 cap, fn] w fun e w' => e = .returned (.int .i64 (-1)) ∧ Below w.heap.size w w' := by
  go_enter Tryz.func130, Tryz.ntmps130
  go_wp2
  refine wp_loop_rounds 1 ?_
  rw [rounds_succ]
  go_wp2
  go_ret
  exact ⟨rfl, Below.refl _ _⟩
set_option maxRecDepth 100000 in
set_option maxHeartbeats 2000000 in
theorem conMine (l : List S3) (v : Value) (r t : Int) (rb tb : Nat) (w : World) (k0 : w.cell? ⟨rb, 0, none⟩ = some (.int .i64 r)) (k1 : w.cell? ⟨tb, 0, none⟩ = some (.int .i64 t)) (hlen : l.length ≤ 12) (hl : Sps w v l) :
    Calls Tryz.prog 94 #[v, .func (.func 95) #[] #[.pointer (some ⟨rb, 0, none⟩), .pointer (some ⟨tb, 0, none⟩)]] w fun e w' =>
      e = .returned (.bool (l.any (mine r t))) ∧ Below w.heap.size w w' := by
  rcases hl with ⟨rfl, ao, cap, rfl⟩ | ⟨b, off, cap, rfl, _, hlt, hc⟩
  · have h := idxMine_nil (.func (.func 95) #[] #[.pointer (some ⟨rb, 0, none⟩), .pointer (some ⟨tb, 0, none⟩)]) ao cap w
    clear k0 k1
    go_enter Tryz.func94, Tryz.ntmps94
    go_wp2_with (go_at_call 130; refine h.mono ?_; rintro e w1 ⟨rfl, bb⟩; clear h)
    go_ret
    exact ⟨rfl, bb⟩
  · have h := idxMine l r t b off cap rb tb w k0 k1 hlen hlt hc
    clear k0 k1 hc
    go_enter Tryz.func94, Tryz.ntmps94
    go_wp2_with (go_at_call 130; refine h.mono ?_; rintro e w1 ⟨⟨q, rfl, hq⟩, bb⟩; clear h; have HR : Hid (decide (0 ≤ q) = l.any (mine r t)) := hq; clear hq)
    go_ret
    exact ⟨retB HR.out, bb⟩
/-- A row that is being laid. -/
def RwN (w : World) (g n : Nat) (P : Nat → Bool) : Prop := ∀ i, i < n → w.cell? ⟨g, i, none⟩ = some (.bool (P i)) ∧ w.frozen? ⟨g, i, none⟩ = false
theorem RwN.below {w w' : World} {g n B : Nat} {P : Nat → Bool} (h : RwN w g n P) (hb : Below B w w') (hB : g < B) : RwN w' g n P := fun i hi =>
  ⟨(hb.cell (p := ⟨g, _, none⟩) hB).trans (h i hi).1, (hb.frozen (p := ⟨g, _, none⟩) hB).trans (h i hi).2⟩
theorem RwN.set {w : World} {g n : Nat} {P : Nat → Bool} (h : RwN w g n P) {k : Nat} (hk : k < n) (b : Bool) : RwN (w.setCell ⟨g, k, none⟩ (.bool b)) g n (fun i => if i = k then b else P i) := fun i hi => by
  obtain ⟨h1, h2⟩ := h i hi
  refine ⟨?_, (World.frozen?_setCell _ _ _ _).trans h2⟩
  by_cases he : i = k
  · subst he
    simp [go_sem, h1]
  · simp only [if_neg he]
    rw [World.cell?_setCell_other _ _ _ _ (by intro e; injection e with _ e2; omega)]
    exact h1
theorem made_row (n : Nat) (hn : n ≤ 40) (W : World) : (Instr.makeSlice 127 (.int .i64 n) (.int .i64 n)).run Tryz.prog W = .ok (.slice (some ⟨W.heap.size, 0, none⟩) n n) (W.alloc (.cells (madeCells #[.bool false] n) 4)) := by
  obtain ⟨i, hi, hz⟩ : ∃ i, Tryz.prog.info? 4 = some i ∧ (i.zero, i.size, i.bytes) = (some (.bool false), 1, 1) := by
    have : (Tryz.prog.info? 4).map (fun i => (i.zero, i.size, i.bytes)) = some (some (.bool false), 1, 1) := by kernel_rfl
    cases hq : Tryz.prog.info? 4 with
    | none => rw [hq] at this; cases this
    | some i => rw [hq] at this; exact ⟨i, rfl, Option.some.inj this⟩
  simp only [Prod.mk.injEq] at hz
  obtain ⟨hz1, hz2, hz3⟩ := hz
  have := run_make (P := Tryz.prog) W 127 4 i _ (by kernel_rfl) hi hz1 .i64 .i64 n n (by omega) (Int.le_refl _) (by rw [hz3]; omega) (by omega)
  rw [hz2] at this
  simpa [Value.cells] using this
end Go.Proofs.YtfconbblnmbnpahGreatDoor
