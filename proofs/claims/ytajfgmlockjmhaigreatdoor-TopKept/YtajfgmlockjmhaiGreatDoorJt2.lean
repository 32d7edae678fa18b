/-
  Math, RoomMath, WireMath, StaysMath, TextMath, CodeL, Base, OpsL, ReadMath, ParseMath, RopMath, PlanMath, KMath, KMath2, KTurnM, KTurnW, PlanBase, PortL, KTouchL, KVal, Blk4, POpen, KSet, StFz, LogM, LogC, LogCC, LogCS, LogCT, LgStopM, LgKeepM, TkM: joined into one text.
-/
import Derived.Lib.ItoaLen
import Derived.Lib.AtoiTie
import Derived.Test.YtajfgmlockjmhaiGreatDoorRows
import Derived.WalkKit
import Derived.Test.YtajfgmlockjmhaiGreatDoorJt1
import Derived.Lib.SmallJoins
import Derived.Deep.Slices
import Derived.Deep.MidRow
namespace Go.Proofs.YtajfgmlockjmhaiGreatDoor

/-- What A is below, of an op n. -/
def bA (n : Int) : Int := if n = 7 ∨ n = 10 ∨ n = 11 then 1 else 6
/-- What B is below, of an op n in code of 'ops' ops. -/
def bB (n ops : Int) : Int := if n = 1 then 1000 else if n ≤ 5 then 6 else if n ≤ 7 then ops else if n ≤ 9 then 12 else 1
/-- Whether an op fits in code of so many ops. -/
def fitsB (n a b ops : Int) : Bool := decide (1 ≤ n ∧ n ≤ 11 ∧ 0 ≤ a ∧ a < bA n ∧ 0 ≤ b ∧ b < bB n ops)

theorem fitsB_lo {n a b ops : Int} (h : n < 1) : fitsB n a b ops = false := by simp [fitsB]; omega
theorem fitsB_hi {n a b ops : Int} (h : 11 < n) : fitsB n a b ops = false := by simp [fitsB]; omega
/-- An op: What, A, B. -/
abbrev O3 := Int × Int × Int
def ok3 (ops : Int) (o : O3) : Bool := fitsB o.1 o.2.1 o.2.2 ops
/-- Check: which op is wrong, and how. -/
def chk (l : List O3) : Int × Int :=
  if l.length = 0 then (0, 5) else if 20 < l.length then (0, 4) else
    match l.findIdx? (fun o => !ok3 l.length o) with
    | some i => (i, 1)
    | none => (0, 0)
theorem chk_nil : chk [] = (0, 5) := rfl
theorem chk_long {l : List O3} (h : 20 < l.length) : chk l = (0, 4) := by
  unfold chk
  rw [if_neg (by omega), if_pos h]
theorem chk_bad {l : List O3} {i : Nat} (h0 : l.length ≠ 0) (h1 : ¬ 20 < l.length) (h : l.findIdx? (fun o => !ok3 l.length o) = some i) : chk l = ((i : Int), 1) := by
  unfold chk
  rw [if_neg h0, if_neg h1, h]
theorem chk_good {l : List O3} (h0 : l.length ≠ 0) (h1 : ¬ 20 < l.length) (h : l.findIdx? (fun o => !ok3 l.length o) = none) : chk l = (0, 0) := by
  unfold chk
  rw [if_neg h0, if_neg h1, h]
theorem chk_zero {l : List O3} (h : (chk l).2 = 0) : l.length ≠ 0 ∧ l.length ≤ 20 ∧ ∀ o ∈ l, ok3 l.length o = true := by
  unfold chk at h
  split at h
  · simp at h
  · split at h
    · simp at h
    · rename_i h0 h1
      cases hf : l.findIdx? (fun o => !ok3 l.length o) with
      | some i => rw [hf] at h; simp at h
      | none =>
        rw [List.findIdx?_eq_none_iff] at hf
        exact ⟨h0, by omega, fun o ho => by simpa using hf o ho⟩
theorem chk_fst {l : List O3} (h : (chk l).2 = 0) : chk l = (0, 0) := by
  obtain ⟨h0, h1, h2⟩ := chk_zero h
  exact chk_good h0 (by omega) (by rw [List.findIdx?_eq_none_iff]; intro o ho; simp [h2 o ho])
theorem findIdx_hit {α : Type} {p : α → Bool} : ∀ {l : List α} {k : Nat} {o : α}, (∀ i x, i < k → l[i]? = some x → p x = false) → l[k]? = some o → p o = true → l.findIdx? p = some k
  | [], k, o, _, h, _ => by simp at h
  | x :: l, 0, o, _, h, hp => by simp at h; subst h; simp [List.findIdx?_cons, hp]
  | x :: l, k + 1, o, h0, h, hp => by
    have hx : p x = false := h0 0 x (by omega) rfl
    have := findIdx_hit (l := l) (k := k) (o := o) (fun i y hi hy => h0 (i + 1) y (by omega) (by simpa using hy)) (by simpa using h) hp
    simp [List.findIdx?_cons, hx, this]
theorem findIdx_miss {α : Type} {p : α → Bool} {l : List α} (h : ∀ (i : Nat) x, i < l.length → l[i]? = some x → p x = false) : l.findIdx? p = none := by
  rw [List.findIdx?_eq_none_iff]
  intro x hx
  obtain ⟨i, hi, rfl⟩ := List.getElem_of_mem hx
  exact h i _ hi (by simp [hi])

theorem ok3_range {ops : Int} {o : O3} (h : ok3 ops o = true) : 1 ≤ o.1 ∧ o.1 ≤ 11 ∧ 0 ≤ o.2.1 ∧ o.2.1 < bA o.1 ∧ 0 ≤ o.2.2 ∧ o.2.2 < bB o.1 ops := by
  simpa [ok3, fitsB] using h
theorem bA_le (n : Int) : 1 ≤ bA n ∧ bA n ≤ 6 := by unfold bA; split <;> omega
theorem bB_le (n ops : Int) : bB n ops ≤ max 1000 ops := by unfold bB; split <;> (try split) <;> (try split) <;> (try split) <;> omega
theorem ok3_small {ops : Int} {o : O3} (hops : ops ≤ 1000) (h : ok3 ops o = true) : 1 ≤ o.1 ∧ o.1 ≤ 11 ∧ 0 ≤ o.2.1 ∧ o.2.1 ≤ 5 ∧ 0 ≤ o.2.2 ∧ o.2.2 ≤ 999 := by
  have h1 := ok3_range h
  have h2 := bA_le o.1
  have h3 := bB_le o.1 ops
  omega
end Go.Proofs.YtajfgmlockjmhaiGreatDoor
namespace Go.Proofs.YtajfgmlockjmhaiGreatDoor

/-- A state of a room: where it goes on, its cells, whether it has failed. -/
structure St where
  p : Int
  c : Nat → Int
  f : Bool
/-- One cell changed. -/
def upd (c : Nat → Int) (a : Nat) (v : Int) : Nat → Int := fun i => if i = a then v else c i
/-- Whether all cells are numbers of a room. -/
def cellsOk (c : Nat → Int) : Bool := decide (0 ≤ c 0 ∧ c 0 ≤ 999 ∧ 0 ≤ c 1 ∧ c 1 ≤ 999 ∧ 0 ≤ c 2 ∧ c 2 ≤ 999 ∧ 0 ≤ c 3 ∧ c 3 ≤ 999 ∧ 0 ≤ c 4 ∧ c 4 ≤ 999 ∧ 0 ≤ c 5 ∧ c 5 ≤ 999)
theorem six {P : Nat → Prop} : (∀ i, i < 6 → P i) ↔ (P 0 ∧ P 1 ∧ P 2 ∧ P 3 ∧ P 4 ∧ P 5) := by
  refine ⟨fun h => ⟨h 0 (by omega), h 1 (by omega), h 2 (by omega), h 3 (by omega), h 4 (by omega), h 5 (by omega)⟩, fun ⟨h0, h1, h2, h3, h4, h5⟩ i hi => ?_⟩
  match i, hi with
  | 0, _ => exact h0
  | 1, _ => exact h1
  | 2, _ => exact h2
  | 3, _ => exact h3
  | 4, _ => exact h4
  | 5, _ => exact h5
  | i + 6, h => omega
theorem cellsOk_iff {c : Nat → Int} : cellsOk c = true ↔ ∀ i, i < 6 → 0 ≤ c i ∧ c i ≤ 999 := by
  rw [six]
  simp [cellsOk, and_assoc]
theorem cellsOk_no {c : Nat → Int} (h : ¬ ∀ i, i < 6 → 0 ≤ c i ∧ c i ≤ 999) : cellsOk c = false := by
  rw [← cellsOk_iff] at h
  simpa using h
/-- Whether a state is right in code of so many ops. -/
def stOk (s : St) (n : Nat) : Bool := decide (0 ≤ s.p ∧ s.p < n) && cellsOk s.c
theorem stOk_iff {s : St} {n : Nat} : stOk s n = true ↔ (0 ≤ s.p ∧ s.p < n ∧ ∀ i, i < 6 → 0 ≤ s.c i ∧ s.c i ≤ 999) := by
  simp only [stOk, Bool.and_eq_true, decide_eq_true_eq, cellsOk_iff, and_assoc]
/-- Check of code and a state: the error. -/
def rchk (l : List O3) (s : St) : Int := if (chk l).2 = 0 then (if stOk s l.length = true then 0 else 1) else (chk l).2
/-- Check, and what is there to be taken. -/
def gchk (l : List O3) (s : St) (got : Int) (is : Bool) : Int := if rchk l s = 0 then (if is = true ∧ (got < 0 ∨ 999 < got) then 1 else 0) else rchk l s
/-- The cells as an op leaves them. -/
def cellsF (o : O3) (c : Nat → Int) (got : Int) (is : Bool) : Nat → Int :=
  if o.1 = 1 then upd c o.2.1.toNat o.2.2 else if o.1 = 2 then upd c o.2.1.toNat (c o.2.2.toNat) else
  if o.1 = 3 then upd c o.2.1.toNat ((c o.2.1.toNat + c o.2.2.toNat) % 1000) else
  if o.1 = 4 then upd c o.2.1.toNat ((c o.2.1.toNat - c o.2.2.toNat + 1000) % 1000) else
  if o.1 = 5 then upd c o.2.1.toNat ((c o.2.1.toNat * c o.2.2.toNat) % 1000) else
  if o.1 = 9 then (if is = true then upd c o.2.1.toNat got else c) else c
/-- The next place. -/
def nextF (o : O3) (s : St) (n : Nat) (is : Bool) : Int :=
  if o.1 = 7 ∨ (o.1 = 6 ∧ s.c o.2.1.toNat = 0) then o.2.2 else if o.1 = 11 ∨ (o.1 = 9 ∧ is = false) then s.p else if s.p + 1 = n then 0 else s.p + 1
/-- What an op sends. -/
def sentF (o : O3) (c : Nat → Int) : Int := if o.1 = 8 then c o.2.1.toNat else -1
/-- A step of a state that is right. -/
def stepF (o : O3) (s : St) (n : Nat) (got : Int) (is : Bool) : St := if s.f = true then s else ⟨nextF o s n is, cellsF o s.c got is, decide (o.1 = 11)⟩
def sendF (o : O3) (s : St) : Int := if s.f = true then -1 else sentF o s.c
/-- What comes of a step. -/
def whatF (o : O3) (s : St) (is : Bool) : Int := if s.f = true then 5 else if o.1 = 8 then 1 else if o.1 = 9 then (if is = true then 2 else 3) else if o.1 = 11 then 4 else 0
end Go.Proofs.YtajfgmlockjmhaiGreatDoor
namespace Go.Proofs.YtajfgmlockjmhaiGreatDoor

/-- The numbers from s on, k many, of which p says yes. -/
def pickN (p : Nat → Bool) (s k : Nat) : List Int := ((List.range' s k).filter p).map Int.ofNat
/-- An op of that What on that wire. -/
def onW (what : Int) (i : Nat) (o : O3) : Bool := decide (o.1 = what) && decide (o.2.2 = (i : Int))
def wiresB (what : Int) (l : List O3) : List Int := pickN (fun i => l.any (onW what i)) 0 12
/-- The first i wires of them. -/
theorem pick_snoc (p : Nat → Bool) (k : Nat) : pickN p 0 (k + 1) = if p k then pickN p 0 k ++ [(k : Int)] else pickN p 0 k := by
  unfold pickN
  rw [List.range'_1_concat, List.filter_append, List.map_append]
  simp only [Nat.zero_add, List.filter_cons, List.filter_nil]
  split <;> simp
theorem pick_len (p : Nat → Bool) (k : Nat) : (pickN p 0 k).length ≤ k := by
  unfold pickN
  rw [List.length_map]
  have := List.length_filter_le p (List.range' 0 k)
  simpa using this
end Go.Proofs.YtajfgmlockjmhaiGreatDoor
namespace Go.Proofs.YtajfgmlockjmhaiGreatDoor

theorem upd_ok {c : Nat → Int} {a : Nat} {v : Int} (hc : ∀ i, i < 6 → 0 ≤ c i ∧ c i ≤ 999) (hv : 0 ≤ v ∧ v ≤ 999) : ∀ i, i < 6 → 0 ≤ upd c a v i ∧ upd c a v i ≤ 999 := by
  intro i hi
  unfold upd
  split
  · exact hv
  · exact hc i hi
theorem mod_ok (x : Int) : 0 ≤ x % 1000 ∧ x % 1000 ≤ 999 := by omega
theorem cellsF_ok {o : O3} {c : Nat → Int} {got : Int} {is : Bool} (hc : ∀ i, i < 6 → 0 ≤ c i ∧ c i ≤ 999) (h1 : o.1 = 1 → 0 ≤ o.2.2 ∧ o.2.2 ≤ 999) (h2 : o.1 = 2 → o.2.2.toNat < 6) (hg : is = true → 0 ≤ got ∧ got ≤ 999) : ∀ i, i < 6 → 0 ≤ cellsF o c got is i ∧ cellsF o c got is i ≤ 999 := by
  unfold cellsF
  split
  · rename_i h; exact upd_ok hc (h1 h)
  split
  · rename_i h; exact upd_ok hc (hc _ (h2 h))
  split
  · exact upd_ok hc (mod_ok _)
  split
  · exact upd_ok hc (mod_ok _)
  split
  · exact upd_ok hc (mod_ok _)
  split
  · split
    · rename_i h; exact upd_ok hc (hg h)
    · exact hc
  · exact hc
theorem nextF_ok {o : O3} {s : St} {n : Nat} {is : Bool} (h0 : 0 ≤ s.p) (h1 : s.p < n) (hb : o.1 = 6 ∨ o.1 = 7 → 0 ≤ o.2.2 ∧ o.2.2 < n) : 0 ≤ nextF o s n is ∧ nextF o s n is < n := by
  unfold nextF
  split
  · rename_i h
    exact hb (by rcases h with h | h; exact Or.inr h; exact Or.inl h.1)
  split
  · exact ⟨h0, h1⟩
  split
  · omega
  · omega
theorem sentF_ok {o : O3} {c : Nat → Int} (hc : ∀ i, i < 6 → 0 ≤ c i ∧ c i ≤ 999) (ha : o.2.1.toNat < 6) : -1 ≤ sentF o c ∧ sentF o c ≤ 999 := by
  unfold sentF
  split
  · have := hc _ ha; omega
  · omega
theorem sentF_send {o : O3} {c : Nat → Int} (h : 0 ≤ sentF o c) : o.1 = 8 := by
  unfold sentF at h
  split at h
  · assumption
  · omega
end Go.Proofs.YtajfgmlockjmhaiGreatDoor
namespace Go.Proofs.YtajfgmlockjmhaiGreatDoor
def tail (zs : List Int) : List UInt8 := zs.flatMap fun z => 32 :: Lib.itoa z
def lineB (word : List UInt8) (zs : List Int) : List UInt8 := word ++ tail zs ++ [10]
theorem ba_size (l : List UInt8) : (ByteArray.mk l.toArray).size = l.length := by simp [ByteArray.size]
theorem tail_snoc (zs : List Int) (z : Int) : tail (zs ++ [z]) = tail zs ++ ([32] ++ Lib.itoa z) := by simp [tail]
theorem tail_le (zs : List Int) (h : ∀ z ∈ zs, -9223372036854775808 ≤ z ∧ z ≤ 9223372036854775807) : (tail zs).length ≤ 22 * zs.length := by
  induction zs with
  | nil => simp [tail]
  | cons z zs ih =>
    have h1 := ih (fun y hy => h y (by simp [hy]))
    have h2 := Lib.itoa_length_le z (h z (by simp)).1 (h z (by simp)).2
    simp only [tail, List.flatMap_cons, List.length_append, List.length_cons] at h1 ⊢
    omega
/-- The bounds of an op's numbers as the table has them. -/
def pA (n : Int) : Int := bA n
def pB (n : Int) : Int := bB n 0
end Go.Proofs.YtajfgmlockjmhaiGreatDoor
namespace Go.Proofs.YtajfgmlockjmhaiGreatDoor
open Go.RowKit

def sv (l : List UInt8) : Value := .string ⟨l.toArray⟩
theorem lt_of_cell {w : World} {b o : Nat} {v : Value} (h : w.cell? ⟨b, o, none⟩ = some v) : b < w.heap.size := by
  rcases Nat.lt_or_ge b w.heap.size with h' | h'
  · exact h'
  · simp [World.cell?, Array.getElem?_eq_none h'] at h
theorem ret_bool {a b : Bool} (h : a = b) : Ending.returned (.bool a) = .returned (.bool b) := by rw [h]
theorem ret_int {k : IntKind} {a b : Int} (h : a = b) : Ending.returned (.int k a) = .returned (.int k b) := by rw [h]
theorem grown_of_below {w w' : World} (h : Below w.heap.size w w') : w.grownBy w' none := ⟨h.os, h.tape, h.output, h.size, fun k hk _ => h.block k hk⟩
theorem own_all {w w' : World} {base : Nat} {e : TypeId} {size : Nat} {v : Value} {n : Nat} {xs : List Value} (h : w.ownsRow base e size v n xs) (hb : Below w.heap.size w w') : w'.ownsRow base e size v n xs :=
  h.kept (grown_of_below hb) (by cases v.ownBlock <;> simp)
/-- A slice of numbers that can be read in the world. -/
def Ints (w : World) (v : Value) (zs : List Int) : Prop :=
  (v = .slice none 0 0 ∧ zs = []) ∨ ∃ a cap, v = .slice (some a) zs.length cap ∧ a.block < w.heap.size ∧ ∀ (i : Nat) z, zs[i]? = some z → w.cell? (a.add i) = some (.int .i64 z)
/-- Code that can be read in the world. -/
def Ops (w : World) (v : Value) (l : List O3) : Prop :=
  (l = [] ∧ ∃ ao cap, v = .slice ao 0 cap) ∨
  ∃ b off cap, v = .slice (some ⟨b, off, none⟩) l.length cap ∧ b < w.heap.size ∧
    ∀ (i : Nat) o, l[i]? = some o → w.cell? ⟨b, off + i * 3, none⟩ = some (.int .i64 o.1) ∧ w.cell? ⟨b, off + i * 3 + 1, none⟩ = some (.int .i64 o.2.1) ∧ w.cell? ⟨b, off + i * 3 + 2, none⟩ = some (.int .i64 o.2.2)
theorem Ops.all {w w' : World} {v : Value} {l : List O3} (h : Ops w v l) (hb : Below w.heap.size w w') : Ops w' v l := by
  rcases h with h | ⟨b, off, cap, rfl, hlt, hc⟩
  · exact Or.inl h
  · exact Or.inr ⟨b, off, cap, rfl, Nat.lt_of_lt_of_le hlt hb.size, fun i o ho => by
      obtain ⟨h0, h1, h2⟩ := hc i o ho
      exact ⟨(hb.cell (p := ⟨b, _, none⟩) hlt).trans h0, (hb.cell (p := ⟨b, _, none⟩) hlt).trans h1, (hb.cell (p := ⟨b, _, none⟩) hlt).trans h2⟩⟩
theorem Ops.form {w : World} {v : Value} {l : List O3} (h : Ops w v l) : ∃ ao cap, v = .slice ao l.length cap := by
  rcases h with ⟨rfl, ao, cap, rfl⟩ | ⟨b, off, cap, rfl, _⟩
  · exact ⟨ao, cap, rfl⟩
  · exact ⟨_, cap, rfl⟩
/-- An error as a value. -/
def errV (e : Int) : Value := if e = 0 then .nilIface else .iface 93 (.int .i64 e)
theorem add_block (a : Addr) (k : Nat) : (a.add k).block = a.block := by unfold Addr.add; split <;> rfl
theorem infoIntC : (Tryz.prog.info? 3).map (fun i => (i.zero, i.size, i.bytes)) = some (some (.int .i64 0), 1, 8) := by kernel_rfl
theorem ints_of_own {w : World} {base : Nat} {v : Value} {zs : List Int} (h : w.ownsRow base 3 1 v zs.length (zs.map (Value.int .i64))) : Ints w v zs := by
  have hl := h.lt
  have hcs := @World.ownsRow.cells _ _ _ _ _ _ _ h
  rcases h.2 with ⟨rfl, h0⟩ | ⟨g, cap, cur, rfl, _⟩
  · exact Or.inl ⟨rfl, List.eq_nil_of_length_eq_zero h0⟩
  · refine Or.inr ⟨⟨g, 0, none⟩, cap, rfl, (hl g rfl).2, fun i z hz => ?_⟩
    exact hcs rfl i _ (by simp [hz])
theorem ints_all {w w' : World} {v : Value} {zs : List Int} (h : Ints w v zs) (hb : Below w.heap.size w w') : Ints w' v zs := by
  rcases h with h | ⟨a, cap, rfl, ha, hc⟩
  · exact Or.inl h
  · exact Or.inr ⟨a, cap, rfl, Nat.lt_of_lt_of_le ha hb.size, fun i z hz => (hb.cell (p := a.add i) (by rw [add_block]; exact ha)).trans (hc i z hz)⟩
theorem slice_form {w : World} {base t n k : Nat} {v : Value} {cs : List Value} (R : w.ownsRow base t k v n cs) : ∃ g n' cap, v = .slice g n' cap := by
  rcases R.2 with ⟨h, _⟩ | ⟨g, cap, cur, h, _⟩
  · exact ⟨_, _, _, h⟩
  · exact ⟨_, _, _, h⟩

end Go.Proofs.YtajfgmlockjmhaiGreatDoor
namespace Go.Proofs.YtajfgmlockjmhaiGreatDoor
open Go.RowKit

/-- The cells of the table of forms. -/
def formsCells : List Value := [
  .string ⟨#[]⟩, .int .i64 0, .int .i64 0,
  .string ⟨#[115, 101, 116]⟩, .int .i64 6, .int .i64 1000,
  .string ⟨#[99, 111, 112, 121]⟩, .int .i64 6, .int .i64 6,
  .string ⟨#[97, 100, 100]⟩, .int .i64 6, .int .i64 6,
  .string ⟨#[115, 117, 98]⟩, .int .i64 6, .int .i64 6,
  .string ⟨#[109, 117, 108]⟩, .int .i64 6, .int .i64 6,
  .string ⟨#[122, 101, 114, 111]⟩, .int .i64 6, .int .i64 0,
  .string ⟨#[106, 117, 109, 112]⟩, .int .i64 1, .int .i64 0,
  .string ⟨#[115, 101, 110, 100]⟩, .int .i64 6, .int .i64 12,
  .string ⟨#[116, 97, 107, 101]⟩, .int .i64 6, .int .i64 12,
  .string ⟨#[114, 101, 115, 116]⟩, .int .i64 1, .int .i64 1,
  .string ⟨#[102, 97, 105, 108]⟩, .int .i64 1, .int .i64 1]
/-- The table of forms lies in the world. -/
def Forms (w : World) : Prop := ∀ i v, formsCells[i]? = some v → w.cell? ⟨2, i, none⟩ = some v

theorem Forms.below {B : Nat} {w w' : World} (hf : Forms w) (hb : Below B w w') (hB : 2 < B) : Forms w' :=
  fun i v h => (hb.cell (p := ⟨_, i, none⟩) hB).trans (hf i v h)
theorem Forms.lt {w : World} (hf : Forms w) : 2 < w.heap.size := lt_of_cell (hf 0 _ rfl)
theorem Forms.all {w w' : World} (hf : Forms w) (hb : Below w.heap.size w w') : Forms w' := hf.below hb hf.lt
theorem Forms.alloc {w : World} (hf : Forms w) (o : Obj) : Forms (w.alloc o) := hf.all ((Below.refl _ _).alloc (Nat.le_refl _) _)
theorem Forms.drew {w : World} (hf : Forms w) : Forms w.drew := hf.all (Below.refl _ _).drew
end Go.Proofs.YtajfgmlockjmhaiGreatDoor
namespace Go.Proofs.YtajfgmlockjmhaiGreatDoor
open Go.RowKit

theorem Ops.block {w w' : World} {v : Value} {l : List O3} (h : Ops w v l) (hb : ∀ k, k < w.heap.size → v.ownBlock = some k → w'.heap[k]? = w.heap[k]?) (hs : w.heap.size ≤ w'.heap.size) : Ops w' v l := by
  rcases h with h | ⟨b, off, cap, rfl, hlt, hc⟩
  · exact Or.inl h
  · have hk := hb b hlt rfl
    refine Or.inr ⟨b, off, cap, rfl, by omega, fun i o ho => ?_⟩
    obtain ⟨h0, h1, h2⟩ := hc i o ho
    exact ⟨(World.cell?_of_block (w := w) (a := ⟨b, _, none⟩) hk).trans h0, (World.cell?_of_block (w := w) (a := ⟨b, _, none⟩) hk).trans h1, (World.cell?_of_block (w := w) (a := ⟨b, _, none⟩) hk).trans h2⟩
theorem Ops.lt {w : World} {v : Value} {l : List O3} (h : Ops w v l) (hl : l ≠ []) : ∀ g, v.ownBlock = some g → g < w.heap.size := fun g hg => by
  rcases h with ⟨rfl, _⟩ | ⟨b, off, cap, rfl, hlt, _⟩
  · exact absurd rfl hl
  · simp only [Value.ownBlock, Option.some.injEq] at hg
    omega
end Go.Proofs.YtajfgmlockjmhaiGreatDoor
namespace Go.Proofs.YtajfgmlockjmhaiGreatDoor

end Go.Proofs.YtajfgmlockjmhaiGreatDoor
namespace Go.Proofs.YtajfgmlockjmhaiGreatDoor

end Go.Proofs.YtajfgmlockjmhaiGreatDoor
namespace Go.Proofs.YtajfgmlockjmhaiGreatDoor

/-- The last piece has no newline; the lines are the others, each with one, and it. -/
theorem cut_lines : ∀ (l cur : List UInt8), (10 : UInt8) ∉ cur → ∃ ps q, cutGo 10 cur l = ps ++ [q] ∧ (10 : UInt8) ∉ q ∧ linesGo cur l = ps.map (· ++ [10]) ++ (if q = [] then [] else [q])
  | [], cur, h => ⟨[], cur, rfl, h, by simp [linesGo]⟩
  | x :: xs, cur, h => by
    by_cases hx : x = 10
    · obtain ⟨ps, q, h1, h2, h3⟩ := cut_lines xs [] (by simp)
      refine ⟨cur :: ps, q, ?_, h2, ?_⟩
      · rw [cutGo_hit hx, h1]; rfl
      · rw [linesGo, if_pos hx, h3]; rfl
    · obtain ⟨ps, q, h1, h2, h3⟩ := cut_lines xs (cur ++ [x]) (by simp [h]; exact fun e => hx e.symm)
      refine ⟨ps, q, ?_, h2, ?_⟩
      · rw [cutGo_miss hx, h1]
      · rw [linesGo, if_neg hx, h3]
end Go.Proofs.YtajfgmlockjmhaiGreatDoor
namespace Go.Proofs.YtajfgmlockjmhaiGreatDoor

/-- A plan: the code of each room, ticks, spans, wires. -/
structure PD where
  code : List (List O3)
  ticks : Int
  spans : List S3
  wires : List W4
def PD.none : PD := ⟨[], 0, [], []⟩
/-- The fault of the first code that is wrong. -/
def codesE : List (List O3) → Int
  | [] => 0
  | c :: r => if (chk c).2 = 0 then codesE r else (chk c).2
/-- Is a wire none of a room's own? -/
def portB (at' : W4 → Int) (ws : List W4) (i : Nat) (k : Int) : Bool := match ws[k.toNat]? with
  | none => true
  | some x => !decide (at' x = (i : Int))
def portsB (ws : List W4) (i : Nat) (c : List O3) : Bool := (wiresB 8 c).any (portB (·.1) ws i) || (wiresB 9 c).any (portB (·.2.1) ws i)
def portsAny (ws : List W4) : Nat → List (List O3) → Bool
  | _, [] => false
  | i, c :: r => portsB ws i c || portsAny ws (i + 1) r
/-- Does a span name a room that has no code? -/
def spanOut (n : Nat) (s : S3) : Bool := decide ((n : Int) ≤ s.2.2)
def wireOut (n : Nat) (x : W4) : Bool := decide ((n : Int) ≤ x.1) || decide ((n : Int) ≤ x.2.1)
/-- The fault of a plan. -/
def plchk (p : PD) : Int :=
  if 5 < p.code.length then 4 else if p.code.length = 0 then 5 else
  if (fchk p.ticks p.spans).2 ≠ 0 then (fchk p.ticks p.spans).2 else
  if (wschk p.wires).2 ≠ 0 then (wschk p.wires).2 else
  if p.spans.any (spanOut p.code.length) = true then 1 else
  if p.wires.any (wireOut p.code.length) = true then 1 else
  if codesE p.code ≠ 0 then codesE p.code else
  if portsAny p.wires 0 p.code = true then 3 else 0
theorem plchk_long {p : PD} (h : 5 < p.code.length) : plchk p = 4 := by rw [plchk, if_pos h]
theorem plchk_none {p : PD} (h : p.code.length = 0) : plchk p = 5 := by rw [plchk, if_neg (by omega), if_pos h]
theorem plchk_frame {p : PD} (h1 : p.code.length ≤ 5) (h2 : p.code.length ≠ 0) (h3 : (fchk p.ticks p.spans).2 ≠ 0) : plchk p = (fchk p.ticks p.spans).2 := by rw [plchk, if_neg (by omega), if_neg h2, if_pos h3]
theorem plchk_wires {p : PD} (h1 : p.code.length ≤ 5) (h2 : p.code.length ≠ 0) (h3 : (fchk p.ticks p.spans).2 = 0) (h4 : (wschk p.wires).2 ≠ 0) : plchk p = (wschk p.wires).2 := by
  rw [plchk, if_neg (by omega), if_neg h2, if_neg (by simpa using h3), if_pos h4]
theorem plchk_span {p : PD} (h1 : p.code.length ≤ 5) (h2 : p.code.length ≠ 0) (h3 : (fchk p.ticks p.spans).2 = 0) (h4 : (wschk p.wires).2 = 0) (h5 : p.spans.any (spanOut p.code.length) = true) : plchk p = 1 := by
  rw [plchk, if_neg (by omega), if_neg h2, if_neg (by simpa using h3), if_neg (by simpa using h4), if_pos h5]
theorem plchk_wire {p : PD} (h1 : p.code.length ≤ 5) (h2 : p.code.length ≠ 0) (h3 : (fchk p.ticks p.spans).2 = 0) (h4 : (wschk p.wires).2 = 0) (h5 : p.spans.any (spanOut p.code.length) = false) (h6 : p.wires.any (wireOut p.code.length) = true) : plchk p = 1 := by
  rw [plchk, if_neg (by omega), if_neg h2, if_neg (by simpa using h3), if_neg (by simpa using h4), if_neg (by rw [h5]; decide), if_pos h6]
theorem plchk_tail {p : PD} (h1 : p.code.length ≤ 5) (h2 : p.code.length ≠ 0) (h3 : (fchk p.ticks p.spans).2 = 0) (h4 : (wschk p.wires).2 = 0) (h5 : p.spans.any (spanOut p.code.length) = false) (h6 : p.wires.any (wireOut p.code.length) = false) :
    plchk p = if codesE p.code ≠ 0 then codesE p.code else if portsAny p.wires 0 p.code = true then 3 else 0 := by
  rw [plchk, if_neg (by omega), if_neg h2, if_neg (by simpa using h3), if_neg (by simpa using h4), if_neg (by rw [h5]; decide), if_neg (by rw [h6]; decide)]
theorem plchk_zero {p : PD} (h : plchk p = 0) : p.code.length ≤ 5 ∧ p.code.length ≠ 0 ∧ (fchk p.ticks p.spans).2 = 0 ∧ (wschk p.wires).2 = 0 ∧ p.spans.any (spanOut p.code.length) = false ∧ p.wires.any (wireOut p.code.length) = false ∧ codesE p.code = 0 ∧ portsAny p.wires 0 p.code = false := by
  unfold plchk at h
  split at h
  · simp at h
  · rename_i h1
    split at h
    · simp at h
    · rename_i h2
      split at h
      · contradiction
      · rename_i h3
        split at h
        · contradiction
        · rename_i h4
          split at h
          · simp at h
          · rename_i h5
            split at h
            · simp at h
            · rename_i h6
              split at h
              · contradiction
              · rename_i h7
                split at h
                · simp at h
                · rename_i h8
                  exact ⟨by omega, h2, by simpa using h3, by simpa using h4, by simpa using h5, by simpa using h6, by simpa using h7, by simpa using h8⟩
theorem codesE_zero : ∀ {l : List (List O3)}, codesE l = 0 → ∀ c ∈ l, (chk c).2 = 0
  | [], _, c, hc => by simp at hc
  | x :: l, h, c, hc => by
    rw [codesE] at h
    by_cases hx : (chk x).2 = 0
    · rw [if_pos hx] at h
      rcases List.mem_cons.1 hc with rfl | hc
      · exact hx
      · exact codesE_zero h c hc
    · rw [if_neg hx] at h
      exact absurd h hx
theorem codesE_skip : ∀ (l : List (List O3)) (k : Nat), (∀ (j : Nat) c, j < k → l[j]? = some c → (chk c).2 = 0) → codesE l = codesE (l.drop k)
  | l, 0, _ => by simp
  | [], k + 1, _ => by simp
  | x :: l, k + 1, h => by
    have hx : (chk x).2 = 0 := h 0 x (by omega) rfl
    rw [codesE, if_pos hx, List.drop_succ_cons]
    exact codesE_skip l k (fun j c hj hc => h (j + 1) c (by omega) (by simpa using hc))
theorem codesE_hit {l : List (List O3)} {k : Nat} {c : List O3} (h : ∀ (j : Nat) c, j < k → l[j]? = some c → (chk c).2 = 0) (hc : l[k]? = some c) (hb : (chk c).2 ≠ 0) : codesE l = (chk c).2 := by
  rw [codesE_skip l k h]
  obtain ⟨hk, rfl⟩ := List.getElem?_eq_some_iff.1 hc
  rw [List.drop_eq_getElem_cons hk, codesE, if_neg hb]
theorem codesE_ok {l : List (List O3)} (h : ∀ (j : Nat) c, j < l.length → l[j]? = some c → (chk c).2 = 0) : codesE l = 0 := by
  rw [codesE_skip l l.length h]
  simp [codesE]
theorem portsAny_skip (ws : List W4) : ∀ (l : List (List O3)) (k i : Nat), (∀ (j : Nat) c, j < k → l[j]? = some c → portsB ws (i + j) c = false) → portsAny ws i l = portsAny ws (i + k) (l.drop k)
  | l, 0, i, _ => by simp
  | [], k + 1, i, _ => by simp [portsAny]
  | x :: l, k + 1, i, h => by
    have hx : portsB ws i x = false := h 0 x (by omega) rfl
    rw [portsAny, hx, Bool.false_or, List.drop_succ_cons, show i + (k + 1) = i + 1 + k by omega]
    exact portsAny_skip ws l k (i + 1) (fun j c hj hc => by rw [show i + 1 + j = i + (j + 1) by omega]; exact h (j + 1) c (by omega) (by simpa using hc))
theorem portsAny_hit {ws : List W4} {l : List (List O3)} {k : Nat} {c : List O3} (h : ∀ (j : Nat) c, j < k → l[j]? = some c → portsB ws j c = false) (hc : l[k]? = some c) (hb : portsB ws k c = true) : portsAny ws 0 l = true := by
  rw [portsAny_skip ws l k 0 (fun j c hj hx => by rw [Nat.zero_add]; exact h j c hj hx), Nat.zero_add]
  obtain ⟨hk, rfl⟩ := List.getElem?_eq_some_iff.1 hc
  rw [List.drop_eq_getElem_cons hk, portsAny, hb, Bool.true_or]
theorem portsAny_ok {ws : List W4} {l : List (List O3)} (h : ∀ (j : Nat) c, j < l.length → l[j]? = some c → portsB ws j c = false) : portsAny ws 0 l = false := by
  rw [portsAny_skip ws l l.length 0 (fun j c hj hx => by rw [Nat.zero_add]; exact h j c hj hx)]
  simp [portsAny]

/-! Lines. -/
/-- Lines with their ends, as a text. -/
def endL (ls : List (List UInt8)) : List UInt8 := ls.flatMap (· ++ [10])
/-! A text as a plan. -/
/-- One op more, of the last room. -/
def onto (acc : List (List O3)) (o : O3) : Option (List (List O3)) := match acc.getLast? with
  | none => none
  | some c => some (acc.dropLast ++ [c ++ [o]])
end Go.Proofs.YtajfgmlockjmhaiGreatDoor
namespace Go.Proofs.YtajfgmlockjmhaiGreatDoor

/-- A line: its wire, what is there, what was lost. -/
structure LnD where
  w : W4
  xs : List Int
  ls : Int
def LnD.none : LnD := ⟨(0, 0, 0, 0), [], 0⟩
/-- What is there to be taken. -/
def headL (l : LnD) : Int × Bool := match l.xs with
  | [] => (0, false)
  | x :: _ => (x, true)
/-- Behind a take. -/
def restL (l : LnD) : LnD := match l.xs with
  | [] => l
  | _ :: ys => if l.w.2.2.1 = 2 then ⟨l.w, ys, l.ls⟩ else l
/-- Is what is sent there? -/
def fitL (l : LnD) : Bool := decide (l.w.2.2.1 = 1) || decide ((l.xs.length : Int) < l.w.2.2.2)
/-- Behind a send. -/
def putL (l : LnD) (n : Int) : LnD := if l.w.2.2.1 = 1 then ⟨l.w, [n], l.ls⟩ else if (l.xs.length : Int) < l.w.2.2.2 then ⟨l.w, l.xs ++ [n], l.ls⟩ else ⟨l.w, l.xs, l.ls + 1⟩
/-- A kernel: its rooms, its lines, its time. -/
structure KD where
  rooms : List St
  lines : List LnD
  time : Int
def stNew : St := ⟨0, fun _ => 0, false⟩
def newK (p : PD) : KD := ⟨p.code.map fun _ => stNew, p.wires.map fun x => ⟨x, [], 0⟩, 0⟩
def opAt (c : List O3) (s : St) : O3 := c.getD s.p.toNat (0, 0, 0)
def takesB (o : O3) (s : St) : Bool := !s.f && decide (o.1 = 9)
def lineAt (k : KD) (o : O3) : LnD := k.lines.getD o.2.2.toNat LnD.none
def gotK (k : KD) (o : O3) (s : St) : Int × Bool := if takesB o s = true then headL (lineAt k o) else (0, false)
/-- The lines behind what is taken. -/
def linesT (k : KD) (o : O3) (s : St) : List LnD := if takesB o s = true then k.lines.set o.2.2.toNat (restL (lineAt k o)) else k.lines
/-- .. and behind what is sent. -/
def linesS (ls : List LnD) (o : O3) (sent : Int) : List LnD := if 0 ≤ sent then ls.set o.2.2.toNat (putL (ls.getD o.2.2.toNat LnD.none) sent) else ls
/-- What came of it. -/
def cameK (ls : List LnD) (o : O3) (sent what : Int) : Int := if 0 ≤ sent ∧ fitL (ls.getD o.2.2.toNat LnD.none) = false then 3 else what
/-- A tick that a room has. -/
def turnK (p : PD) (k : KD) (r : Nat) : KD × Int × Int :=
  let c := p.code.getD r []
  let s := k.rooms.getD r stNew
  let o := opAt c s
  let g := gotK k o s
  (⟨k.rooms.set r (stepF o s c.length g.1 g.2), linesS (linesT k o s) o (sendF o s), k.time + 1⟩, s.p, cameK (linesT k o s) o (sendF o s) (whatF o s g.2))
/-- A tick; and what is told of it. -/
def tickK (p : PD) (sp : List S3) (k : KD) : KD × Int × Int × Int × Int :=
  let r := hold sp (k.time % p.ticks)
  if r < 0 then (⟨k.rooms, k.lines, k.time + 1⟩, k.time, r, 0, 0) else ((turnK p k r.toNat).1, k.time, r, (turnK p k r.toNat).2.1, (turnK p k r.toNat).2.2)

/-- A line that is right. -/
structure LnOk (l : LnD) (x : W4) : Prop where
  w : l.w = x
  xs : ∀ n ∈ l.xs, 0 ≤ n ∧ n ≤ 999
  one : x.2.2.1 = 1 → l.xs.length ≤ 1
  deep : x.2.2.1 = 2 → (l.xs.length : Int) ≤ x.2.2.2
  ls : 0 ≤ l.ls
/-- A kernel that is right. -/
structure KOk (p : PD) (k : KD) : Prop where
  rl : k.rooms.length = p.code.length
  ll : k.lines.length = p.wires.length
  rooms : ∀ (i : Nat) c s, p.code[i]? = some c → k.rooms[i]? = some s → stOk s c.length = true
  lines : ∀ (i : Nat) l x, k.lines[i]? = some l → p.wires[i]? = some x → LnOk l x
  lost : ∀ l ∈ k.lines, l.ls ≤ k.time + 10000000
  time : 0 ≤ k.time
theorem any_of_all {α : Type} {f : α → Bool} {l : List α} (h : l.any f = false) {x : α} (hx : x ∈ l) : f x = false := by
  rw [List.any_eq_false] at h
  simpa using h x hx
theorem wiresB_mem {what : Int} {c : List O3} {o : O3} (ho : o ∈ c) (h1 : o.1 = what) (h2 : 0 ≤ o.2.2) (h3 : o.2.2 < 12) : o.2.2 ∈ wiresB what c := by
  unfold wiresB pickN
  rw [List.mem_map]
  refine ⟨o.2.2.toNat, ?_, by simp; omega⟩
  rw [List.mem_filter, List.mem_range'_1]
  refine ⟨by omega, List.any_eq_true.2 ⟨o, ho, ?_⟩⟩
  simp [onW, h1]
  omega
theorem port_wire {at' : W4 → Int} {ws : List W4} {i : Nat} {z : Int} (h : portB at' ws i z = false) : ∃ x, ws[z.toNat]? = some x ∧ at' x = (i : Int) := by
  unfold portB at h
  cases hx : ws[z.toNat]? with
  | none => rw [hx] at h; cases h
  | some x =>
    rw [hx] at h
    exact ⟨x, rfl, by simpa using h⟩
theorem portsAny_false : ∀ {ws : List W4} {l : List (List O3)} {i : Nat}, portsAny ws i l = false → ∀ (j : Nat) c, l[j]? = some c → portsB ws (i + j) c = false
  | ws, [], i, _, j, c, hc => by simp at hc
  | ws, x :: l, i, h, j, c, hc => by
    rw [portsAny, Bool.or_eq_false_iff] at h
    cases j with
    | zero => simp at hc; subst hc; exact h.1
    | succ j =>
      have := portsAny_false h.2 j c (by simpa using hc)
      rw [show i + (j + 1) = i + 1 + j by omega]
      exact this
/-- What a right plan says of an op that sends, or takes. -/
theorem op_wire {p : PD} (h : plchk p = 0) {r : Nat} {c : List O3} {o : O3} (hc : p.code[r]? = some c) (ho : o ∈ c) : (o.1 = 8 → ∃ x, p.wires[o.2.2.toNat]? = some x ∧ x.1 = (r : Int)) ∧ (o.1 = 9 → ∃ x, p.wires[o.2.2.toNat]? = some x ∧ x.2.1 = (r : Int)) := by
  obtain ⟨_, _, _, _, _, _, hcd, hpt⟩ := plchk_zero h
  have hck := codesE_zero hcd c (List.mem_of_getElem? hc)
  obtain ⟨_, hl20, hok⟩ := chk_zero hck
  have hr := ok3_range (hok o ho)
  have hp := portsAny_false hpt r c hc
  rw [Nat.zero_add] at hp
  unfold portsB at hp
  rw [Bool.or_eq_false_iff] at hp
  refine ⟨fun h8 => ?_, fun h9 => ?_⟩
  · have hb : 0 ≤ o.2.2 ∧ o.2.2 < 12 := by simp [h8, bB] at hr; omega
    exact port_wire (any_of_all hp.1 (wiresB_mem ho h8 hb.1 hb.2))
  · have hb : 0 ≤ o.2.2 ∧ o.2.2 < 12 := by simp [h9, bB] at hr; omega
    exact port_wire (any_of_all hp.2 (wiresB_mem ho h9 hb.1 hb.2))
theorem new_ok {p : PD} (h : plchk p = 0) : KOk p (newK p) := by
  obtain ⟨_, _, _, hw, _, _, hcd, _⟩ := plchk_zero h
  refine ⟨by simp [newK], by simp [newK], fun i c s hc hs => ?_, fun i l x hl hx => ?_, fun l hl => ?_, by simp [newK]⟩
  · simp only [newK, List.getElem?_map, hc, Option.map_some, Option.some.injEq] at hs
    subst hs
    have hck := chk_zero (codesE_zero hcd c (List.mem_of_getElem? hc))
    rw [stOk_iff]
    have := hck.1
    exact ⟨by simp [stNew], by simp [stNew]; omega, fun i _ => by simp [stNew]⟩
  · simp only [newK, List.getElem?_map, hx, Option.map_some, Option.some.injEq] at hl
    subst hl
    have := (wschk_ok hw).2 x (List.mem_of_getElem? hx)
    refine ⟨rfl, fun n hn => by simp at hn, fun _ => by simp, fun h2 => ?_, by simp⟩
    rcases wchk_kind this with ⟨h1, _⟩ | ⟨_, h3, _⟩
    · omega
    · simp
      omega
  · simp only [newK, List.mem_map] at hl
    obtain ⟨x, _, rfl⟩ := hl
    simp [newK]
end Go.Proofs.YtajfgmlockjmhaiGreatDoor
namespace Go.Proofs.YtajfgmlockjmhaiGreatDoor

theorem headL_ok {l : LnD} {x : W4} (h : LnOk l x) : (headL l).2 = true → 0 ≤ (headL l).1 ∧ (headL l).1 ≤ 999 := by
  unfold headL
  intro hh
  cases hx : l.xs with
  | nil => rw [hx] at hh; cases hh
  | cons n ys => exact h.xs n (by rw [hx]; simp)
theorem restL_ok {l : LnD} {x : W4} (h : LnOk l x) : LnOk (restL l) x := by
  unfold restL
  cases hx : l.xs with
  | nil => exact h
  | cons n ys =>
    simp only
    split
    · refine ⟨h.w, fun m hm => h.xs m (by rw [hx]; simp [hm]), fun h1 => ?_, fun h2 => ?_, h.ls⟩
      · have := h.one h1
        rw [hx, List.length_cons] at this
        simp only
        omega
      · have := h.deep h2
        rw [hx, List.length_cons] at this
        simp only
        omega
    · exact h
theorem restL_ls (l : LnD) : (restL l).ls = l.ls := by
  unfold restL
  split
  · rfl
  · split <;> rfl
theorem putL_ok {l : LnD} {x : W4} {n : Int} (h : LnOk l x) (hn : 0 ≤ n ∧ n ≤ 999) : LnOk (putL l n) x := by
  unfold putL
  split
  · rename_i h1
    rw [h.w] at h1
    exact ⟨h.w, fun m hm => by simp at hm; subst hm; exact hn, fun _ => by simp, fun h2 => by omega, h.ls⟩
  · rename_i h1
    rw [h.w] at h1
    split
    · rename_i h2
      rw [h.w] at h2
      refine ⟨h.w, fun m hm => ?_, fun h3 => absurd h3 h1, fun _ => by simp; omega, h.ls⟩
      rcases List.mem_append.1 hm with hm | hm
      · exact h.xs m hm
      · simp at hm; subst hm; exact hn
    · exact ⟨h.w, h.xs, fun h3 => absurd h3 h1, h.deep, by have := h.ls; simp; omega⟩
theorem putL_ls (l : LnD) (n : Int) : (putL l n).ls ≤ l.ls + 1 := by
  unfold putL
  split
  · simp only
    omega
  · split
    · simp only
      omega
    · simp
/-- Lines of which one is another one. -/
theorem lines_set {ls : List LnD} {ws : List W4} {j : Nat} {l' : LnD} (h : ∀ (i : Nat) l x, ls[i]? = some l → ws[i]? = some x → LnOk l x) (h' : ∀ x, ws[j]? = some x → LnOk l' x) : ∀ (i : Nat) l x, (ls.set j l')[i]? = some l → ws[i]? = some x → LnOk l x := fun i l x hl hx => by
  by_cases hij : j = i
  · subst hij
    have hlt : j < ls.length := by
      have := (List.getElem?_eq_some_iff.1 hl).1
      simpa using this
    rw [List.getElem?_set_self hlt] at hl
    obtain rfl := Option.some.inj hl
    exact h' x hx
  · rw [List.getElem?_set_ne hij] at hl
    exact h i l x hl hx
structure Turn (p : PD) (k : KD) (r : Nat) (c : List O3) (s : St) (o : O3) : Prop where
  hc : p.code[r]? = some c
  hs : k.rooms[r]? = some s
  ho : c[s.p.toNat]? = some o
  ck : (chk c).2 = 0
  st : stOk s c.length = true
  ok : ok3 c.length o = true
theorem turn_of {p : PD} {k : KD} (h : plchk p = 0) (hk : KOk p k) {r : Nat} (hr : r < p.code.length) : ∃ c s o, Turn p k r c s o := by
  obtain ⟨_, _, _, _, _, _, hcd, _⟩ := plchk_zero h
  have hc : p.code[r]? = some p.code[r] := List.getElem?_eq_getElem hr
  have hs : k.rooms[r]? = some (k.rooms[r]'(by rw [hk.rl]; exact hr)) := List.getElem?_eq_getElem _
  have hck := codesE_zero hcd _ (List.mem_of_getElem? hc)
  have hst := hk.rooms r _ _ hc hs
  have hp := stOk_iff.1 hst
  have hlt : (k.rooms[r]'(by rw [hk.rl]; exact hr)).p.toNat < p.code[r].length := by omega
  exact ⟨_, _, _, hc, hs, List.getElem?_eq_getElem hlt, hck, hst, (chk_zero hck).2.2 _ (List.getElem_mem hlt)⟩
theorem Turn.at {p : PD} {k : KD} {r : Nat} {c : List O3} {s : St} {o : O3} (h : Turn p k r c s o) : p.code.getD r [] = c ∧ k.rooms.getD r stNew = s ∧ opAt c s = o := by
  unfold opAt
  simp [List.getD, h.hc, h.hs, h.ho]
/-- What is there to be taken is a number of a room. -/
theorem got_ok {p : PD} {k : KD} (hp : plchk p = 0) (hk : KOk p k) {r : Nat} {c : List O3} {s : St} {o : O3} (h : Turn p k r c s o) : (gotK k o s).2 = true → 0 ≤ (gotK k o s).1 ∧ (gotK k o s).1 ≤ 999 := by
  unfold gotK
  split
  · rename_i ht
    unfold takesB at ht
    simp only [Bool.and_eq_true, decide_eq_true_eq] at ht
    obtain ⟨x, hx, _⟩ := (op_wire hp h.hc (List.mem_of_getElem? h.ho)).2 ht.2
    have hlt : o.2.2.toNat < k.lines.length := by rw [hk.ll]; exact (List.getElem?_eq_some_iff.1 hx).1
    have hl : k.lines[o.2.2.toNat]? = some k.lines[o.2.2.toNat] := List.getElem?_eq_getElem hlt
    have e : lineAt k o = k.lines[o.2.2.toNat] := by simp [lineAt, List.getD, hl]
    rw [e]
    exact headL_ok (hk.lines _ _ _ hl hx)
  · intro hh; cases hh
theorem stepK_ok {p : PD} {k : KD} {r : Nat} {c : List O3} {s : St} {o : O3} (h : Turn p k r c s o) {got : Int} {is : Bool} (hg : is = true → 0 ≤ got ∧ got ≤ 999) : stOk (stepF o s c.length got is) c.length = true := by
  have hp := stOk_iff.1 h.st
  have hr := ok3_range h.ok
  unfold stepF
  split
  · exact h.st
  · rw [stOk_iff]
    have hn := nextF_ok (o := o) (s := s) (n := c.length) (is := is) hp.1 hp.2.1 (fun hh => by rcases hh with h6 | h7 <;> simp_all [bB])
    refine ⟨hn.1, hn.2, cellsF_ok hp.2.2 (fun h1 => by simp [h1, bB] at hr; omega) (fun h2 => by simp [h2, bB] at hr; omega) hg⟩
theorem sendK_range {p : PD} {k : KD} {r : Nat} {c : List O3} {s : St} {o : O3} (h : Turn p k r c s o) : -1 ≤ sendF o s ∧ sendF o s ≤ 999 ∧ (0 ≤ sendF o s → o.1 = 8 ∧ s.f = false) := by
  have hp := stOk_iff.1 h.st
  have hs := ok3_small (o := o) (ops := c.length) (by have := (chk_zero h.ck).2.1; omega) h.ok
  unfold sendF
  split
  · exact ⟨by omega, by omega, fun hh => by omega⟩
  · rename_i hf
    have := sentF_ok (o := o) hp.2.2 (by omega)
    exact ⟨this.1, this.2, fun hh => ⟨sentF_send hh, by simpa using hf⟩⟩
theorem linesT_ok {p : PD} {k : KD} (hk : KOk p k) (o : O3) (s : St) : (linesT k o s).length = p.wires.length ∧ (∀ (i : Nat) l x, (linesT k o s)[i]? = some l → p.wires[i]? = some x → LnOk l x) ∧ ∀ l ∈ linesT k o s, l.ls ≤ k.time + 10000000 := by
  unfold linesT
  split
  · refine ⟨by rw [List.length_set]; exact hk.ll, lines_set hk.lines (fun x hx => ?_), fun l hl => ?_⟩
    · have hlt : o.2.2.toNat < k.lines.length := by rw [hk.ll]; exact (List.getElem?_eq_some_iff.1 hx).1
      have hl : k.lines[o.2.2.toNat]? = some k.lines[o.2.2.toNat] := List.getElem?_eq_getElem hlt
      have e : lineAt k o = k.lines[o.2.2.toNat] := by simp [lineAt, List.getD, hl]
      rw [e]
      exact restL_ok (hk.lines _ _ _ hl hx)
    · rcases List.mem_or_eq_of_mem_set hl with h1 | h1
      · exact hk.lost l h1
      · rw [h1, restL_ls]
        unfold lineAt
        rw [List.getD]
        cases hx : k.lines[o.2.2.toNat]? with
        | none =>
          have := hk.time
          show (0 : Int) ≤ _
          omega
        | some y => exact hk.lost y (List.mem_of_getElem? hx)
  · exact ⟨hk.ll, hk.lines, hk.lost⟩
theorem turn_ok {p : PD} {k : KD} (hp : plchk p = 0) (hk : KOk p k) {r : Nat} (hr : r < p.code.length) : KOk p (turnK p k r).1 := by
  obtain ⟨c, s, o, h⟩ := turn_of hp hk hr
  obtain ⟨e1, e2, e3⟩ := h.at
  obtain ⟨t1, t2, t3⟩ := linesT_ok hk o s
  have hsr := sendK_range h
  unfold turnK
  simp only [e1, e2, e3]
  refine ⟨by simp [hk.rl], ?_, fun i c' s' hc' hs' => ?_, ?_, ?_, by have := hk.time; simp; omega⟩
  · simp only
    unfold linesS
    split <;> simp [t1]
  · simp only at hs'
    by_cases hir : r = i
    · subst hir
      rw [List.getElem?_set_self (by rw [hk.rl]; exact hr)] at hs'
      obtain rfl := Option.some.inj hs'
      rw [h.hc] at hc'
      obtain rfl := Option.some.inj hc'
      exact stepK_ok h (got_ok hp hk h)
    · rw [List.getElem?_set_ne hir] at hs'
      exact hk.rooms i c' s' hc' hs'
  · simp only
    unfold linesS
    split
    · rename_i h0
      refine lines_set t2 (fun x hx => ?_)
      have hlt : o.2.2.toNat < (linesT k o s).length := by rw [t1]; exact (List.getElem?_eq_some_iff.1 hx).1
      have hl : (linesT k o s)[o.2.2.toNat]? = some (linesT k o s)[o.2.2.toNat] := List.getElem?_eq_getElem hlt
      have e : (linesT k o s).getD o.2.2.toNat LnD.none = (linesT k o s)[o.2.2.toNat] := by simp [List.getD, hl]
      rw [e]
      exact putL_ok (t2 _ _ _ hl hx) ⟨h0, hsr.2.1⟩
    · exact t2
  · simp only
    intro l hl
    unfold linesS at hl
    split at hl
    · rcases List.mem_or_eq_of_mem_set hl with h1 | h1
      · have := t3 l h1
        omega
      · have h2 := putL_ls ((linesT k o s).getD o.2.2.toNat LnD.none) (sendF o s)
        rw [← h1] at h2
        rw [List.getD] at h2
        cases hx : (linesT k o s)[o.2.2.toNat]? with
        | none => rw [hx] at h2; have := hk.time; simp [LnD.none] at h2; omega
        | some y => rw [hx] at h2; have := t3 y (List.mem_of_getElem? hx); simp at h2; omega
    · have := t3 l hl
      omega
theorem who_room {p : PD} (hp : plchk p = 0) (t : Int) : -1 ≤ hold p.spans t ∧ (0 ≤ hold p.spans t → (hold p.spans t).toNat < p.code.length) := by
  obtain ⟨_, _, hf, _, hs, _, _, _⟩ := plchk_zero hp
  have hr := hold_range (t := t) (fchk_zero hf).2.2.2.1
  refine ⟨hr.1, fun h0 => ?_⟩
  cases hi : p.spans.findIdx? (hits t) with
  | none => rw [hold_none hi] at h0; omega
  | some i =>
    have hi' := hi
    rw [List.findIdx?_eq_some_iff_getElem] at hi'
    obtain ⟨hlt, _⟩ := hi'
    have hg : p.spans[i]? = some p.spans[i] := List.getElem?_eq_getElem hlt
    rw [hold_some hi hg] at h0 ⊢
    have := any_of_all hs (List.mem_of_getElem? hg)
    simp [spanOut] at this
    omega
theorem tick_ok {p : PD} {k : KD} (hp : plchk p = 0) (hk : KOk p k) : KOk p (tickK p p.spans k).1 := by
  have hw := who_room hp (k.time % p.ticks)
  unfold tickK
  simp only
  split
  · exact ⟨hk.rl, hk.ll, hk.rooms, hk.lines, fun l hl => by have := hk.lost l hl; simp; omega, by have := hk.time; simp; omega⟩
  · exact turn_ok hp hk (hw.2 (by omega))
theorem tick_time (p : PD) (sp : List S3) (k : KD) : (tickK p sp k).1.time = k.time + 1 := by
  unfold tickK
  simp only
  split <;> rfl
end Go.Proofs.YtajfgmlockjmhaiGreatDoor
namespace Go.Proofs.YtajfgmlockjmhaiGreatDoor

/-- A kernel behind so many ticks. -/
def kT (p : PD) : Nat → KD
  | 0 => newK p
  | t + 1 => (tickK p p.spans (kT p t)).1
theorem kT_time (p : PD) : ∀ t, (kT p t).time = t
  | 0 => rfl
  | t + 1 => by
    show (tickK p p.spans (kT p t)).1.time = _
    rw [tick_time, kT_time p t]
    omega
theorem kT_ok {p : PD} (hp : plchk p = 0) : ∀ t, KOk p (kT p t)
  | 0 => new_ok hp
  | t + 1 => tick_ok hp (kT_ok hp t)
end Go.Proofs.YtajfgmlockjmhaiGreatDoor
namespace Go.Proofs.YtajfgmlockjmhaiGreatDoor

theorem set_same {α : Type} {l : List α} {i : Nat} {x : α} (h : l[i]? = some x) : l.set i x = l := by
  apply List.ext_getElem?
  intro j
  rw [List.getElem?_set]
  by_cases hij : i = j
  · subst hij
    rw [if_pos rfl, if_pos (List.getElem?_eq_some_iff.1 h).1, h]
  · simp [hij]
/-- It had failed ahead. -/
theorem turn_failed {p : PD} {k : KD} {r : Nat} {c : List O3} {s : St} {o : O3} (h : Turn p k r c s o) (hf : s.f = true) : turnK p k r = (⟨k.rooms, k.lines, k.time + 1⟩, s.p, 5) := by
  obtain ⟨e1, e2, e3⟩ := h.at
  have ht : takesB o s = false := by unfold takesB; rw [hf]; rfl
  have hs : sendF o s = -1 := by unfold sendF; rw [hf, if_pos rfl]
  unfold turnK
  simp only [e1, e2, e3]
  unfold linesS cameK linesT gotK
  rw [ht, hs]
  simp only [Bool.false_eq_true, if_false, show ¬ ((0 : Int) ≤ -1) by omega, false_and]
  unfold stepF whatF
  rw [hf, if_pos rfl, if_pos rfl, set_same h.hs]
/-- It takes, and there is something. -/
theorem turn_takes {p : PD} {k : KD} {r : Nat} {c : List O3} {s : St} {o : O3} (h : Turn p k r c s o) (hf : s.f = false) (h9 : o.1 = 9) {l : LnD} (hl : k.lines[o.2.2.toNat]? = some l) (hh : (headL l).2 = true) :
    turnK p k r = (⟨k.rooms.set r (stepF o s c.length (headL l).1 true), k.lines.set o.2.2.toNat (restL l), k.time + 1⟩, s.p, 2) := by
  obtain ⟨e1, e2, e3⟩ := h.at
  have ht : takesB o s = true := by unfold takesB; rw [hf, h9]; rfl
  have hs : sendF o s = -1 := by unfold sendF sentF; rw [hf, if_neg (by decide), if_neg (by omega)]
  have hla : lineAt k o = l := by simp [lineAt, List.getD, hl]
  unfold turnK
  simp only [e1, e2, e3]
  unfold linesS cameK linesT gotK
  rw [ht, hs, hla]
  simp only [if_true, show ¬ ((0 : Int) ≤ -1) by omega, if_false, false_and, hh]
  unfold whatF
  rw [hf, if_neg (by decide), if_neg (by omega), if_pos h9, if_pos rfl]
/-- It takes, and there is nothing. -/
theorem turn_waits {p : PD} {k : KD} {r : Nat} {c : List O3} {s : St} {o : O3} (h : Turn p k r c s o) (hf : s.f = false) (h9 : o.1 = 9) {l : LnD} (hl : k.lines[o.2.2.toNat]? = some l) (hh : (headL l).2 = false) :
    turnK p k r = (⟨k.rooms.set r (stepF o s c.length 0 false), k.lines, k.time + 1⟩, s.p, 3) := by
  obtain ⟨e1, e2, e3⟩ := h.at
  have ht : takesB o s = true := by unfold takesB; rw [hf, h9]; rfl
  have hs : sendF o s = -1 := by unfold sendF sentF; rw [hf, if_neg (by decide), if_neg (by omega)]
  have hla : lineAt k o = l := by simp [lineAt, List.getD, hl]
  have hx : l.xs = [] := by
    unfold headL at hh
    split at hh
    · assumption
    · cases hh
  have hhd : headL l = (0, false) := by unfold headL; rw [hx]
  have hre : restL l = l := by unfold restL; rw [hx]
  unfold turnK
  simp only [e1, e2, e3]
  unfold linesS cameK linesT gotK
  rw [ht, hs, hla, hre, hhd]
  simp only [if_true, show ¬ ((0 : Int) ≤ -1) by omega, if_false, false_and]
  rw [set_same hl]
  unfold whatF
  rw [hf, if_neg (by decide), if_neg (by omega), if_pos h9, if_neg (by decide)]
/-- It sends. -/
theorem turn_sends {p : PD} {k : KD} {r : Nat} {c : List O3} {s : St} {o : O3} (h : Turn p k r c s o) (hf : s.f = false) (h8 : o.1 = 8) {l : LnD} (hl : k.lines[o.2.2.toNat]? = some l) :
    turnK p k r = (⟨k.rooms.set r (stepF o s c.length 0 false), k.lines.set o.2.2.toNat (putL l (s.c o.2.1.toNat)), k.time + 1⟩, s.p, if fitL l = true then 1 else 3) := by
  obtain ⟨e1, e2, e3⟩ := h.at
  have ht : takesB o s = false := by unfold takesB; rw [hf, h8]; rfl
  have hs : sendF o s = s.c o.2.1.toNat := by unfold sendF sentF; rw [hf, if_neg (by decide), if_pos h8]
  have h0 : 0 ≤ s.c o.2.1.toNat := by
    have hr := (ok3_range h.ok).2.2
    have hb := (bA_le o.1).2
    have := (stOk_iff.1 h.st).2.2 o.2.1.toNat (by omega)
    exact this.1
  unfold turnK
  simp only [e1, e2, e3]
  unfold linesS cameK linesT gotK
  rw [ht, hs]
  simp only [Bool.false_eq_true, if_false, if_pos h0, List.getD, hl, Option.getD_some]
  have hw : whatF o s false = 1 := by unfold whatF; rw [hf, if_neg (by decide), if_pos h8]
  rw [hw]
  cases hfl : fitL l with
  | true => rw [if_neg (fun e => by cases e.2), if_pos rfl]
  | false => rw [if_pos ⟨h0, rfl⟩, if_neg (by decide)]
/-- It does none of these. -/
theorem turn_else {p : PD} {k : KD} {r : Nat} {c : List O3} {s : St} {o : O3} (h : Turn p k r c s o) (hf : s.f = false) (h8 : o.1 ≠ 8) (h9 : o.1 ≠ 9) :
    turnK p k r = (⟨k.rooms.set r (stepF o s c.length 0 false), k.lines, k.time + 1⟩, s.p, if o.1 = 11 then 4 else 0) := by
  obtain ⟨e1, e2, e3⟩ := h.at
  have ht : takesB o s = false := by unfold takesB; rw [hf]; simp [h9]
  have hs : sendF o s = -1 := by unfold sendF sentF; rw [hf, if_neg (by decide), if_neg h8]
  unfold turnK
  simp only [e1, e2, e3]
  unfold linesS cameK linesT gotK
  rw [ht, hs]
  simp only [Bool.false_eq_true, if_false, show ¬ ((0 : Int) ≤ -1) by omega, false_and]
  unfold whatF
  rw [hf, if_neg (by decide), if_neg h8, if_neg h9]
end Go.Proofs.YtajfgmlockjmhaiGreatDoor
namespace Go.Proofs.YtajfgmlockjmhaiGreatDoor
open Go.RowKit

/-- Codes that can be read. -/
def Cds (w : World) (v : Value) (cs : List (List O3)) : Prop :=
  (cs = [] ∧ ∃ ao cap, v = .slice ao 0 cap) ∨ ∃ b off cap, v = .slice (some ⟨b, off, none⟩) cs.length cap ∧ cs.length ≤ cap ∧ b < w.heap.size ∧ ∀ (i : Nat) c, cs[i]? = some c → ∃ u, w.cell? ⟨b, off + i, none⟩ = some u ∧ Ops w u c
theorem Cds.all {w w' : World} {v : Value} {cs : List (List O3)} (h : Cds w v cs) (hb : Below w.heap.size w w') : Cds w' v cs := by
  rcases h with h | ⟨b, off, cap, rfl, hcap, hlt, hc⟩
  · exact Or.inl h
  · refine Or.inr ⟨b, off, cap, rfl, hcap, Nat.lt_of_lt_of_le hlt hb.size, fun i c hi => ?_⟩
    obtain ⟨u, h1, h2⟩ := hc i c hi
    exact ⟨u, (hb.cell (p := ⟨b, _, none⟩) hlt).trans h1, h2.all hb⟩
theorem Cds.form {w : World} {v : Value} {cs : List (List O3)} (h : Cds w v cs) : ∃ ao cap, v = .slice ao cs.length cap := by
  rcases h with ⟨rfl, ao, cap, rfl⟩ | ⟨b, off, cap, rfl, _⟩
  · exact ⟨ao, cap, rfl⟩
  · exact ⟨_, cap, rfl⟩
theorem Cds.at {w : World} {ao : Option Addr} {cap : Nat} {cs : List (List O3)} (h : Cds w (.slice ao cs.length cap) cs) {i : Nat} (hi : i < cs.length) : ∃ b off u n g c, ao = some ⟨b, off, none⟩ ∧ b < w.heap.size ∧ cs[i]? = some c ∧ w.cell? ⟨b, off + i, none⟩ = some (.slice u n g) ∧ n = c.length ∧ Ops w (.slice u n g) c := by
  rcases h with ⟨rfl, _⟩ | ⟨b, off, cap', e, _, hlt, hc⟩
  · simp at hi
  · injection e with e1
    obtain ⟨u, h1, h2⟩ := hc i _ (List.getElem?_eq_getElem hi)
    obtain ⟨ua, uc, rfl⟩ := h2.form
    exact ⟨b, off, ua, _, uc, _, e1, hlt, List.getElem?_eq_getElem hi, h1, rfl, h2⟩
theorem Sps.at {w : World} {ao : Option Addr} {cap : Nat} {l : List S3} (h : Sps w (.slice ao l.length cap) l) {i : Nat} (hi : i < l.length) : ∃ b off f t r, ao = some ⟨b, off, none⟩ ∧ b < w.heap.size ∧ l[i]? = some (f, t, r) ∧ w.cell? ⟨b, off + i * 3, none⟩ = some (.int .i64 f) ∧ w.cell? ⟨b, off + i * 3 + 1, none⟩ = some (.int .i64 t) ∧ w.cell? ⟨b, off + i * 3 + 2, none⟩ = some (.int .i64 r) := by
  rcases h with ⟨rfl, _⟩ | ⟨b, off, cap', e, _, hlt, hc⟩
  · simp at hi
  · injection e with e1
    obtain ⟨⟨f, t, r⟩, hx'⟩ : ∃ x : S3, l[i]? = some x := ⟨l[i], List.getElem?_eq_getElem hi⟩
    obtain ⟨h0, h1, h2⟩ := hc i _ hx'
    exact ⟨b, off, f, t, r, e1, hlt, hx', h0, h1, h2⟩
/-- A plan's parts can be read. -/
structure Pln (w : World) (vc vs vw : Value) (p : PD) : Prop where
  code : Cds w vc p.code
  spans : Sps w vs p.spans
  wires : Wrs w vw p.wires
theorem Pln.all {w w' : World} {vc vs vw : Value} {p : PD} (h : Pln w vc vs vw p) (hb : Below w.heap.size w w') : Pln w' vc vs vw p := ⟨h.code.all hb, h.spans.all hb, h.wires.all hb⟩
/-- A plan as a value. -/
def plV (vc : Value) (n : Int) (vs vw : Value) : Value := .agg #[vc, .int .i64 n, vs, vw]
/-- Behind the box of a plan. -/
def Bx (w W : World) (vc : Value) (n : Int) (vs vw : Value) : Prop := Below (w.heap.size + 1) (w.alloc (.cells #[vc, .int .i64 n, vs, vw] 26)) W
theorem Bx.first (w : World) (vc : Value) (n : Int) (vs vw : Value) : Bx w (w.alloc (.cells #[vc, .int .i64 n, vs, vw] 26)) vc n vs vw := Below.refl _ _
theorem Bx.size {w W : World} {vc vs vw : Value} {n : Int} (h : Bx w W vc n vs vw) : w.heap.size + 1 ≤ W.heap.size := by
  have := Below.size h
  simpa using this
theorem Bx.step {w W W' : World} {vc vs vw : Value} {n : Int} (h : Bx w W vc n vs vw) (hb : Below W.heap.size W W') : Bx w W' vc n vs vw := Below.trans h (hb.mono h.size)
theorem Bx.dN {w W : World} {vc vs vw : Value} {n : Int} (h : Bx w W vc n vs vw) (k : Nat) : Bx w (W.drewN k) vc n vs vw := below_dN h k
theorem Bx.below {w W : World} {vc vs vw : Value} {n : Int} (h : Bx w W vc n vs vw) : Below w.heap.size w W := ((Below.refl _ _).alloc (Nat.le_refl _) _).trans (Below.mono h (Nat.le_succ _))
theorem Bx.c0 {w W : World} {vc vs vw : Value} {n : Int} (h : Bx w W vc n vs vw) : W.cell? ⟨w.heap.size, 0, none⟩ = some vc := (Below.cell h (p := ⟨w.heap.size, 0, none⟩) (by simp)).trans (by simp)
theorem Bx.c1 {w W : World} {vc vs vw : Value} {n : Int} (h : Bx w W vc n vs vw) : W.cell? ⟨w.heap.size, 1, none⟩ = some (.int .i64 n) := (Below.cell h (p := ⟨w.heap.size, 1, none⟩) (by simp)).trans (by simp)
theorem Bx.c2 {w W : World} {vc vs vw : Value} {n : Int} (h : Bx w W vc n vs vw) : W.cell? ⟨w.heap.size, 2, none⟩ = some vs := (Below.cell h (p := ⟨w.heap.size, 2, none⟩) (by simp)).trans (by simp)
theorem Bx.c3 {w W : World} {vc vs vw : Value} {n : Int} (h : Bx w W vc n vs vw) : W.cell? ⟨w.heap.size, 3, none⟩ = some vw := (Below.cell h (p := ⟨w.heap.size, 3, none⟩) (by simp)).trans (by simp)
theorem any_false {α : Type} {f : α → Bool} {l : List α} (h : ∀ (j : Nat) y, j < l.length → l[j]? = some y → f y = false) : l.any f = false := by
  rw [List.any_eq_false]
  intro x hx
  obtain ⟨j, hj⟩ := List.mem_iff_getElem?.1 hx
  rw [h j x (List.getElem?_eq_some_iff.1 hj).1 hj]
  simp
/-- One more that is not. -/
theorem upto_next {α : Type} {f : α → Bool} {l : List α} {k : Nat} {x : α} (h : ∀ (j : Nat) y, j < k → l[j]? = some y → f y = false) (hx : l[k]? = some x) (hf : f x = false) : ∀ (j : Nat) y, j < k + 1 → l[j]? = some y → f y = false := fun j y hj hy => by
  by_cases hjk : j < k
  · exact h j y hjk hy
  · obtain rfl : j = k := by omega
    rw [hx] at hy
    obtain rfl := Option.some.inj hy
    exact hf
/-- A plan whose parts all lie from a block on: it stays where only what lies before it is written. -/
def PlnF (B : Nat) (w : World) (vc vs vw : Value) (p : PD) : Prop := ∀ w', w.heap.size ≤ w'.heap.size → (∀ b o, B ≤ b → w'.cell? ⟨b, o, none⟩ = w.cell? ⟨b, o, none⟩) → Pln w' vc vs vw p
theorem PlnF.here {B : Nat} {w : World} {vc vs vw : Value} {p : PD} (h : PlnF B w vc vs vw p) : Pln w vc vs vw p := h w (Nat.le_refl _) (fun _ _ _ => rfl)
end Go.Proofs.YtajfgmlockjmhaiGreatDoor
namespace Go.Proofs.YtajfgmlockjmhaiGreatDoor
open Go.RowKit

theorem wires_mem {what : Int} {c : List O3} {z : Int} (h : z ∈ wiresB what c) : 0 ≤ z ∧ z < 12 := by
  unfold wiresB pickN at h
  simp only [List.mem_map, List.mem_filter, List.mem_range'_1] at h
  obtain ⟨a, ⟨⟨_, h2⟩, _⟩, rfl⟩ := h
  simp
  omega
theorem ports_next {ws : List W4} {l : List (List O3)} {k : Nat} {c : List O3} (h : ∀ (j : Nat) y, j < k → l[j]? = some y → portsB ws j y = false) (hx : l[k]? = some c) (hf : portsB ws k c = false) : ∀ (j : Nat) y, j < k + 1 → l[j]? = some y → portsB ws j y = false := fun j y hj hy => by
  by_cases hjk : j < k
  · exact h j y hjk hy
  · obtain rfl : j = k := by omega
    rw [hx] at hy
    obtain rfl := Option.some.inj hy
    exact hf
theorem stp_of_ints {w : World} {v : Value} {zs : List Int} (h : Ints w v zs) : Stp w v zs := by
  rcases h with ⟨rfl, rfl⟩ | ⟨a, cap, rfl, ha, hc⟩
  · exact Or.inl ⟨rfl, _, _, rfl⟩
  · cases zs with
    | nil => exact Or.inl ⟨rfl, _, _, rfl⟩
    | cons z zs =>
      have h0 := hc 0 z rfl
      have ea : a = ⟨a.block, a.off, none⟩ := by
        obtain ⟨b, o, s⟩ := a
        cases s with
        | none => rfl
        | some s =>
          exfalso
          unfold Addr.add at h0
          simp [World.cell?] at h0
          split at h0 <;> simp at h0
      refine Or.inr ⟨a.block, a.off, cap, by rw [← ea], ha, fun i x hx => ?_⟩
      have := hc i x hx
      rw [ea, Addr.add_lit] at this
      exact this
end Go.Proofs.YtajfgmlockjmhaiGreatDoor
namespace Go.Proofs.YtajfgmlockjmhaiGreatDoor
open Go.RowKit

/-- What a call leaves alone: all blocks that were there, but those that are named. -/
structure KTouch (M : List Nat) (w w' : World) : Prop where
  os : w'.os = w.os
  tape : w'.tape = w.tape
  output : w'.output = w.output
  size : w.heap.size ≤ w'.heap.size
  block : ∀ k, k < w.heap.size → k ∉ M → w'.heap[k]? = w.heap[k]?
theorem KTouch.refl (M : List Nat) (w : World) : KTouch M w w := ⟨rfl, rfl, rfl, Nat.le_refl _, fun _ _ _ => rfl⟩
theorem KTouch.trans {M : List Nat} {a b c : World} (h : KTouch M a b) (g : KTouch M b c) : KTouch M a c :=
  ⟨g.os.trans h.os, g.tape.trans h.tape, g.output.trans h.output, Nat.le_trans h.size g.size, fun k hk hm => (g.block k (Nat.lt_of_lt_of_le hk h.size) hm).trans (h.block k hk hm)⟩
theorem KTouch.of {M : List Nat} {w w' : World} (h : Below w.heap.size w w') : KTouch M w w' := ⟨h.os, h.tape, h.output, h.size, fun k hk _ => h.block k hk⟩
theorem KTouch.set {M : List Nat} (w : World) {b : Nat} (hb : b ∈ M) (i : Nat) (v : Value) : KTouch M w (w.setCell ⟨b, i, none⟩ v) :=
  ⟨rfl, rfl, rfl, by simp, fun k _ hm => Below.heap_setCell _ _ _ _ (fun e => hm (by rw [show k = b from e]; exact hb))⟩
theorem KTouch.below {M : List Nat} {w w' : World} (h : KTouch M w w') {B : Nat} (hB : ∀ b ∈ M, B ≤ b) (hw : B ≤ w.heap.size) : Below B w w' :=
  ⟨h.os, h.tape, h.output, h.size, fun k hk => h.block k (by omega) (fun hm => by have := hB k hm; omega)⟩
theorem KTouch.drew {M : List Nat} {w w' : World} (h : KTouch M w w') : KTouch M w w'.drew := h.trans (KTouch.of (Below.refl _ _).drew)
theorem KTouch.more {M M' : List Nat} {w w' w'' : World} (h : KTouch M w w') (g : KTouch M' w' w'') (hn : ∀ m ∈ M', w.heap.size ≤ m) : KTouch M w w'' :=
  ⟨g.os.trans h.os, g.tape.trans h.tape, g.output.trans h.output, Nat.le_trans h.size g.size, fun k hk hm => (g.block k (Nat.lt_of_lt_of_le hk h.size) (fun hm' => by have := hn k hm'; omega)).trans (h.block k hk hm)⟩
theorem KTouch.mono {M M' : List Nat} {w w' : World} (h : KTouch M w w') (hm : ∀ m ∈ M, m ∈ M') : KTouch M' w w' := ⟨h.os, h.tape, h.output, h.size, fun k hk hn => h.block k hk (fun h2 => hn (hm k h2))⟩
/-- The cells of a state. -/
structure StC (w : World) (b o : Nat) (s : St) : Prop where
  p : w.cell? ⟨b, o, none⟩ = some (.int .i64 s.p)
  c0 : w.cell? ⟨b, o + 1, none⟩ = some (.int .i64 (s.c 0))
  c1 : w.cell? ⟨b, o + 2, none⟩ = some (.int .i64 (s.c 1))
  c2 : w.cell? ⟨b, o + 3, none⟩ = some (.int .i64 (s.c 2))
  c3 : w.cell? ⟨b, o + 4, none⟩ = some (.int .i64 (s.c 3))
  c4 : w.cell? ⟨b, o + 5, none⟩ = some (.int .i64 (s.c 4))
  c5 : w.cell? ⟨b, o + 6, none⟩ = some (.int .i64 (s.c 5))
  f : w.cell? ⟨b, o + 7, none⟩ = some (.bool s.f)
theorem StC.block {w w' : World} {b o : Nat} {s : St} (h : StC w b o s) (hb : w'.heap[b]? = w.heap[b]?) : StC w' b o s := by
  have hc := fun i => World.cell?_of_block (w := w) (w' := w') (a := ⟨b, i, none⟩) hb
  exact ⟨(hc _).trans h.p, (hc _).trans h.c0, (hc _).trans h.c1, (hc _).trans h.c2, (hc _).trans h.c3, (hc _).trans h.c4, (hc _).trans h.c5, (hc _).trans h.f⟩
/-- A cell is another number. -/
def pokeS (s : St) (c : Nat) (n : Int) : St := ⟨s.p, fun i => if i = c then n else s.c i, s.f⟩
/-- What is wrong with a poke. -/
def pokeB (k : KD) (r c n : Int) : Bool := decide (r < 0) || decide ((k.rooms.length : Int) ≤ r) || decide (c < 0) || decide (5 < c) || decide (n < 0) || decide (999 < n)
/-- .. as a number. -/
def pokeN (k : KD) (r c n : Int) : Int := if pokeB k r c n = true then 1 else 0
def pokeK (k : KD) (r c n : Int) : KD := if pokeB k r c n = true then k else ⟨k.rooms.set r.toNat (pokeS (k.rooms.getD r.toNat stNew) c.toNat n), k.lines, k.time⟩
theorem pokeB_false {k : KD} {r c n : Int} (h : pokeB k r c n = false) : 0 ≤ r ∧ r < k.rooms.length ∧ 0 ≤ c ∧ c ≤ 5 ∧ 0 ≤ n ∧ n ≤ 999 := by
  unfold pokeB at h
  simp only [Bool.or_eq_false_iff, decide_eq_false_iff_not] at h
  omega
theorem pokeS_ok {s : St} {m : Nat} (h : stOk s m = true) {c : Nat} {n : Int} (hn : 0 ≤ n ∧ n ≤ 999) : stOk (pokeS s c n) m = true := by
  obtain ⟨h1, h2, h3⟩ := stOk_iff.1 h
  refine stOk_iff.2 ⟨h1, h2, fun i hi => ?_⟩
  show 0 ≤ (if i = c then n else s.c i) ∧ (if i = c then n else s.c i) ≤ 999
  split
  · exact hn
  · exact h3 i hi
theorem poke_ok {p : PD} {k : KD} (hk : KOk p k) (r c n : Int) : KOk p (pokeK k r c n) := by
  unfold pokeK
  cases hb : pokeB k r c n with
  | true => rw [if_pos rfl]; exact hk
  | false =>
    rw [if_neg (by decide)]
    obtain ⟨h0, h1, h2, h3, h4, h5⟩ := pokeB_false hb
    refine ⟨by simp only [List.length_set]; exact hk.rl, hk.ll, fun i c' s hc hs => ?_, hk.lines, hk.lost, hk.time⟩
    simp only at hs
    by_cases hij : r.toNat = i
    · subst hij
      have hlt : r.toNat < k.rooms.length := by omega
      rw [List.getElem?_set_self hlt] at hs
      obtain rfl := Option.some.inj hs
      have hs0 : k.rooms[r.toNat]? = some k.rooms[r.toNat] := List.getElem?_eq_getElem hlt
      rw [show k.rooms.getD r.toNat stNew = k.rooms[r.toNat] by simp [List.getD, hs0]]
      exact pokeS_ok (hk.rooms _ _ _ hc hs0) ⟨h4, h5⟩
    · rw [List.getElem?_set_ne hij] at hs
      exact hk.rooms i c' s hc hs
end Go.Proofs.YtajfgmlockjmhaiGreatDoor
namespace Go.Proofs.YtajfgmlockjmhaiGreatDoor
open Go.RowKit

/-- A state as a value. -/
def stA (s : St) : Value := .agg #[.int .i64 s.p, .int .i64 (s.c 0), .int .i64 (s.c 1), .int .i64 (s.c 2), .int .i64 (s.c 3), .int .i64 (s.c 4), .int .i64 (s.c 5), .bool s.f]
/-- An event as a value. -/
def evA (e : Int × Int × Int × Int) : Value := .agg #[.int .i64 e.1, .int .i64 e.2.1, .int .i64 e.2.2.1, .int .i64 e.2.2.2]
def errB (b : Bool) : Int := if b = true then 1 else 0
/-- A room of a kernel, and whether there is one. -/
def noRoom (k : KD) (r : Int) : Bool := decide (r < 0) || decide ((k.rooms.length : Int) ≤ r)
def roomK (k : KD) (r : Int) : St := if noRoom k r = true then stNew else k.rooms.getD r.toNat stNew
/-- A line of a kernel, and whether there is one. -/
def noLine (k : KD) (i : Int) : Bool := decide (i < 0) || decide ((k.lines.length : Int) ≤ i)
def lineK (k : KD) (i : Int) : LnD := if noLine k i = true then LnD.none else k.lines.getD i.toNat LnD.none
end Go.Proofs.YtajfgmlockjmhaiGreatDoor
namespace Go.Proofs.YtajfgmlockjmhaiGreatDoor
open Go.RowKit

theorem set4_blk {w : World} {kb : Nat} {a b c d a' b' c' d' : Value} {t : TypeId} (h : w.heap[kb]? = some (.cells #[a, b, c, d] t (0, 0))) : ((((w.setCell ⟨kb, 0, none⟩ a').setCell ⟨kb, 1, none⟩ b').setCell ⟨kb, 2, none⟩ c').setCell ⟨kb, 3, none⟩ d').heap[kb]? = some (.cells #[a', b', c', d'] t (0, 0)) := by
  simp [World.setCell, Array.getElem?_modify, h]
theorem set4_below {B : Nat} {w w' : World} (h : Below B w w') (b : Nat) (hb : B ≤ b) (x0 x1 x2 x3 : Value) : Below B w ((((w'.setCell ⟨b, 0, none⟩ x0).setCell ⟨b, 1, none⟩ x1).setCell ⟨b, 2, none⟩ x2).setCell ⟨b, 3, none⟩ x3) :=
  (((h.setCell (p := ⟨b, 0, none⟩) hb x0).setCell (p := ⟨b, 1, none⟩) hb x1).setCell (p := ⟨b, 2, none⟩) hb x2).setCell (p := ⟨b, 3, none⟩) hb x3
theorem set4_touch (w : World) (b : Nat) (x0 x1 x2 x3 : Value) : KTouch [b] w ((((w.setCell ⟨b, 0, none⟩ x0).setCell ⟨b, 1, none⟩ x1).setCell ⟨b, 2, none⟩ x2).setCell ⟨b, 3, none⟩ x3) :=
  have hm : b ∈ [b] := by simp
  (((KTouch.set w hm 0 x0).trans (KTouch.set _ hm 1 x1)).trans (KTouch.set _ hm 2 x2)).trans (KTouch.set _ hm 3 x3)
theorem blk4_cs {w : World} {kb : Nat} {a b c d : Value} {t : TypeId} (h : w.heap[kb]? = some (.cells #[a, b, c, d] t (0, 0))) : w.cell? ⟨kb, 0, none⟩ = some a ∧ w.cell? ⟨kb, 1, none⟩ = some b ∧ w.cell? ⟨kb, 2, none⟩ = some c ∧ w.cell? ⟨kb, 3, none⟩ = some d ∧ w.frozen? ⟨kb, 0, none⟩ = false ∧ w.frozen? ⟨kb, 1, none⟩ = false ∧ w.frozen? ⟨kb, 2, none⟩ = false ∧ w.frozen? ⟨kb, 3, none⟩ = false := by
  simp [World.cell?, World.frozen?, h]
end Go.Proofs.YtajfgmlockjmhaiGreatDoor
namespace Go.Proofs.YtajfgmlockjmhaiGreatDoor
open Go.ChangeShapes Go.WideShapes Go.ChangeAt Go.WideElems Go.RowKit Go.Deep

theorem pk_spot {W : World} {a : Addr} {v : Value} (h : W.cell? a = some v) : a = ⟨a.block, a.off, none⟩ ∧ a.block < W.heap.size := by
  obtain ⟨b, o, s⟩ := a
  unfold World.cell? at h
  simp only at h
  cases hb : W.heap[b]? with
  | none => rw [hb] at h; cases h
  | some x =>
    rw [hb] at h
    refine ⟨?_, (Array.getElem?_eq_some_iff.1 hb).1⟩
    cases x <;> simp at h
    cases s with
    | none => rfl
    | some s => simp at h
theorem pk_lt {α : Type} [Inhabited α] {p : Nat → α → Prop} {n : Nat} (h : ∀ i, i < n → ∃ x, p i x) : ∃ f : Nat → α, ∀ i, i < n → p i (f i) := by
  refine ⟨fun i => if hi : i < n then (h i hi).choose else default, fun i hi => ?_⟩
  simp only [hi, dif_pos]
  exact (h i hi).choose_spec
/-- A slice read as data, at the level of its cell. -/
theorem pk_slice {α : Type} [Inhabited α] {H : Type} {enc : TypeId × Value → H} {P : Program} {W : World} {base : Nat} {sp : Nat → Bool} {held : Bool} {fuel : Nat} {cs : List Value} {x : DataW H × List MemPlace} {t e : TypeId} {k : Nat}
    (ht : P.underlying t = some (.slice e)) (hk : P.cellsOf e = k) (hk0 : 0 < k) (R : List Value → α → Prop)
    (hel : ∀ (n : Nat) (cs : List Value) (x : DataW H × List MemPlace), DataW.trod enc P W base sp held n e cs = some x → ∃ o, R cs o)
    (h : DataW.trod enc P W base sp held fuel t cs = some x) :
    ∃ a len cap, cs = [.slice a len cap] ∧ (len = 0 ∨ ∃ b off, a = some ⟨b, off, none⟩ ∧ len ≤ cap ∧ b < W.heap.size ∧ ∃ l : List α, l.length = len ∧ ∀ i o, l[i]? = some o → ∃ us, us.length = k ∧ R us o ∧ ∀ j, j < k → W.cell? ⟨b, off + i * k + j, none⟩ = us[j]?) := by
  rcases open_slice ht h with ⟨rfl, _⟩ | ⟨a, len, cap, m, n, D, Pl, rfl, _, hl, _, hm, _, he⟩
  · exact ⟨none, 0, 0, rfl, Or.inl rfl⟩
  · refine ⟨some a, len, cap, rfl, ?_⟩
    have hlm : len ≤ m := by rw [hm]; split <;> omega
    by_cases h0 : len = 0
    · exact Or.inl h0
    · rw [hk] at he
      obtain ⟨F, hF⟩ := pk_lt (α := α × List Value) (p := fun i o => o.2.length = k ∧ R o.2 o.1 ∧ ∀ j, j < k → W.cell? ((a.add (i * k)).add j) = o.2[j]?) (n := len) (fun i hi => by
        obtain ⟨us, h1, h2⟩ := he i (by omega)
        obtain ⟨o, ho⟩ := hel _ _ _ h2
        obtain ⟨_, h3, h4⟩ := World.cells?_some h1
        exact ⟨(o, us), h3, ho, h4⟩)
      obtain ⟨l0, _, c0⟩ := hF 0 (by omega)
      have hz := c0 0 hk0
      rw [show (a.add (0 * k)).add 0 = a from by simp [Addr.add], List.getElem?_eq_getElem (by omega)] at hz
      obtain ⟨ha, hlt⟩ := pk_spot hz
      refine Or.inr ⟨a.block, a.off, by rw [← ha], hl, hlt, (List.range len).map (fun i => (F i).1), by simp, fun i o ho => ?_⟩
      have hi : i < len := by
        have := (List.getElem?_eq_some_iff.1 ho).1
        simpa using this
      have hoi : (F i).1 = o := by simpa [hi] using ho
      obtain ⟨h1, h2, h3⟩ := hF i hi
      refine ⟨(F i).2, h1, hoi ▸ h2, fun j hj => ?_⟩
      have := h3 j hj
      rw [ha] at this
      simp only [Addr.add_lit] at this
      exact this
theorem pcInt : Tryz.prog.cellsOf 3 = 1 := by kernel_rfl
theorem pcOp : Tryz.prog.cellsOf 28 = 3 := by kernel_rfl
theorem pcSpan : Tryz.prog.cellsOf 82 = 3 := by kernel_rfl
theorem pcWire : Tryz.prog.cellsOf 89 = 4 := by kernel_rfl
theorem pcOps : Tryz.prog.cellsOf 29 = 1 := by kernel_rfl
section
variable {H : Type} {enc : TypeId × Value → H} {W : World} {base : Nat} {sp : Nat → Bool} {held : Bool}
set_option maxRecDepth 100000 in
theorem pk_op (n : Nat) (cs : List Value) (x : DataW H × List MemPlace) (h : DataW.trod enc Tryz.prog W base sp held n 28 cs = some x) : ∃ o : O3, cs = [.int .i64 o.1, .int .i64 o.2.1, .int .i64 o.2.2] := by
  obtain ⟨y0, y1, y2, n, _, hl, h0, h1, h2⟩ := trod_struct3 Tryz.underlying28 h
  rw [pcOp] at hl
  match cs, hl with
  | [c0, c1, c2], _ =>
    simp only [pcInt] at h0 h1 h2
    simp at h0 h1 h2
    obtain ⟨n, e0, _, _⟩ := DataW.trod_int Tryz.underlying3 h0
    obtain ⟨a, e1, _, _⟩ := DataW.trod_int Tryz.underlying3 h1
    obtain ⟨b, e2, _, _⟩ := DataW.trod_int Tryz.underlying3 h2
    simp only [List.cons.injEq, and_true] at e0 e1 e2
    subst e0; subst e1; subst e2
    exact ⟨(n, a, b), rfl⟩
set_option maxRecDepth 100000 in
theorem pk_span (n : Nat) (cs : List Value) (x : DataW H × List MemPlace) (h : DataW.trod enc Tryz.prog W base sp held n 82 cs = some x) : ∃ o : S3, cs = [.int .i64 o.1, .int .i64 o.2.1, .int .i64 o.2.2] := by
  obtain ⟨y0, y1, y2, n, _, hl, h0, h1, h2⟩ := trod_struct3 Tryz.underlying82 h
  rw [pcSpan] at hl
  match cs, hl with
  | [c0, c1, c2], _ =>
    simp only [pcInt] at h0 h1 h2
    simp at h0 h1 h2
    obtain ⟨n, e0, _, _⟩ := DataW.trod_int Tryz.underlying3 h0
    obtain ⟨a, e1, _, _⟩ := DataW.trod_int Tryz.underlying3 h1
    obtain ⟨b, e2, _, _⟩ := DataW.trod_int Tryz.underlying3 h2
    simp only [List.cons.injEq, and_true] at e0 e1 e2
    subst e0; subst e1; subst e2
    exact ⟨(n, a, b), rfl⟩
set_option maxRecDepth 100000 in
theorem pk_wire (n : Nat) (cs : List Value) (x : DataW H × List MemPlace) (h : DataW.trod enc Tryz.prog W base sp held n 89 cs = some x) : ∃ o : W4, cs = [.int .i64 o.1, .int .i64 o.2.1, .int .i64 o.2.2.1, .int .i64 o.2.2.2] := by
  obtain ⟨y0, y1, y2, y3, n, _, hl, h0, h1, h2, h3⟩ := Joins.trod_struct4 Tryz.underlying89 h
  rw [pcWire] at hl
  match cs, hl with
  | [c0, c1, c2, c3], _ =>
    simp only [pcInt] at h0 h1 h2 h3
    simp at h0 h1 h2 h3
    obtain ⟨n, e0, _, _⟩ := DataW.trod_int Tryz.underlying3 h0
    obtain ⟨a, e1, _, _⟩ := DataW.trod_int Tryz.underlying3 h1
    obtain ⟨b, e2, _, _⟩ := DataW.trod_int Tryz.underlying3 h2
    obtain ⟨c, e3, _, _⟩ := DataW.trod_int Tryz.underlying3 h3
    simp only [List.cons.injEq, and_true] at e0 e1 e2 e3
    subst e0; subst e1; subst e2; subst e3
    exact ⟨(n, a, b, c), rfl⟩
theorem pk_ops (n : Nat) (cs : List Value) (x : DataW H × List MemPlace) (h : DataW.trod enc Tryz.prog W base sp held n 29 cs = some x) : ∃ l : List O3, ∃ u, cs = [u] ∧ Ops W u l := by
  obtain ⟨a, len, cap, rfl, hr⟩ := pk_slice (α := O3) Tryz.underlying29 pcOp (by decide) (fun cs o => cs = [.int .i64 o.1, .int .i64 o.2.1, .int .i64 o.2.2]) pk_op h
  rcases hr with rfl | ⟨b, off, rfl, _, hlt, l, rfl, hl⟩
  · exact ⟨[], _, rfl, Or.inl ⟨rfl, _, _, rfl⟩⟩
  · refine ⟨l, _, rfl, Or.inr ⟨b, off, cap, rfl, hlt, fun i o ho => ?_⟩⟩
    obtain ⟨us, _, rfl, hc⟩ := hl i o ho
    exact ⟨hc 0 (by omega), hc 1 (by omega), hc 2 (by omega)⟩
theorem pk_sps (n : Nat) (cs : List Value) (x : DataW H × List MemPlace) (h : DataW.trod enc Tryz.prog W base sp held n 23 cs = some x) : ∃ l : List S3, ∃ u, cs = [u] ∧ Sps W u l := by
  obtain ⟨a, len, cap, rfl, hr⟩ := pk_slice (α := S3) Tryz.underlying23 pcSpan (by decide) (fun cs o => cs = [.int .i64 o.1, .int .i64 o.2.1, .int .i64 o.2.2]) pk_span h
  rcases hr with rfl | ⟨b, off, rfl, hcap, hlt, l, rfl, hl⟩
  · exact ⟨[], _, rfl, Or.inl ⟨rfl, _, _, rfl⟩⟩
  · refine ⟨l, _, rfl, Or.inr ⟨b, off, cap, rfl, hcap, hlt, fun i o ho => ?_⟩⟩
    obtain ⟨us, _, rfl, hc⟩ := hl i o ho
    exact ⟨hc 0 (by omega), hc 1 (by omega), hc 2 (by omega)⟩
theorem pk_wrs (n : Nat) (cs : List Value) (x : DataW H × List MemPlace) (h : DataW.trod enc Tryz.prog W base sp held n 24 cs = some x) : ∃ l : List W4, ∃ u, cs = [u] ∧ Wrs W u l := by
  obtain ⟨a, len, cap, rfl, hr⟩ := pk_slice (α := W4) Tryz.underlying24 pcWire (by decide) (fun cs o => cs = [.int .i64 o.1, .int .i64 o.2.1, .int .i64 o.2.2.1, .int .i64 o.2.2.2]) pk_wire h
  rcases hr with rfl | ⟨b, off, rfl, hcap, hlt, l, rfl, hl⟩
  · exact ⟨[], _, rfl, Or.inl ⟨rfl, _, _, rfl⟩⟩
  · refine ⟨l, _, rfl, Or.inr ⟨b, off, cap, rfl, hcap, hlt, fun i o ho => ?_⟩⟩
    obtain ⟨us, _, rfl, hc⟩ := hl i o ho
    exact ⟨hc 0 (by omega), hc 1 (by omega), hc 2 (by omega), hc 3 (by omega)⟩
theorem pk_cds (n : Nat) (cs : List Value) (x : DataW H × List MemPlace) (h : DataW.trod enc Tryz.prog W base sp held n 22 cs = some x) : ∃ l : List (List O3), ∃ u, cs = [u] ∧ Cds W u l := by
  obtain ⟨a, len, cap, rfl, hr⟩ := pk_slice (α := List O3) Tryz.underlying22 pcOps (by decide) (fun cs l => ∃ u, cs = [u] ∧ Ops W u l) pk_ops h
  rcases hr with rfl | ⟨b, off, rfl, hcap, hlt, l, rfl, hl⟩
  · exact ⟨[], _, rfl, Or.inl ⟨rfl, _, _, rfl⟩⟩
  · refine ⟨l, _, rfl, Or.inr ⟨b, off, cap, rfl, hcap, hlt, fun i c hc => ?_⟩⟩
    obtain ⟨us, _, ⟨u, rfl, hu⟩, hc⟩ := hl i c hc
    have := hc 0 (by omega)
    exact ⟨u, by simpa using this, hu⟩
set_option maxRecDepth 100000 in
/-- A plan that came in. -/
theorem open_plan {b0 : Nat} {r : Reach} {v : Value} {d : DataW H} {p : List MemPlace} (hv : Value.okWide Tryz.prog W r b0 26 v)
    (h : DataW.Trod enc Tryz.prog W base sp held 26 v d p) : ∃ (vc vs vw : Value) (p : PD), v = plV vc p.ticks vs vw ∧ Pln W vc vs vw p := by
  obtain ⟨v0, v1, v2, v3, y0, y1, y2, y3, m, rfl, _, _, h0, h1, h2, h3⟩ := Joins.open_agg4 Tryz.underlying26 (by kernel_rfl) (by kernel_rfl) hv h
  obtain ⟨cs, u0, e0, g0⟩ := pk_cds _ _ _ h0
  obtain ⟨n, e1, _, _⟩ := DataW.trod_int Tryz.underlying3 h1
  obtain ⟨ss, u2, e2, g2⟩ := pk_sps _ _ _ h2
  obtain ⟨ws, u3, e3, g3⟩ := pk_wrs _ _ _ h3
  simp only [List.cons.injEq, and_true] at e0 e1 e2 e3
  subst e0; subst e1; subst e2; subst e3
  exact ⟨_, _, _, ⟨cs, n, ss, ws⟩, rfl, g0, g2, g3⟩
end
end Go.Proofs.YtajfgmlockjmhaiGreatDoor
namespace Go.Proofs.YtajfgmlockjmhaiGreatDoor
open Go.RowKit

/-- A state's eight cells, written. -/
def setSt (w : World) (b o : Nat) (s : St) : World := (((((((w.setCell ⟨b, o, none⟩ (.int .i64 s.p)).setCell ⟨b, o + 1, none⟩ (.int .i64 (s.c 0))).setCell ⟨b, o + 2, none⟩ (.int .i64 (s.c 1))).setCell ⟨b, o + 3, none⟩ (.int .i64 (s.c 2))).setCell ⟨b, o + 4, none⟩ (.int .i64 (s.c 3))).setCell ⟨b, o + 5, none⟩ (.int .i64 (s.c 4))).setCell ⟨b, o + 6, none⟩ (.int .i64 (s.c 5))).setCell ⟨b, o + 7, none⟩ (.bool s.f)
theorem setSt_touch {M : List Nat} (w : World) {b : Nat} (hb : b ∈ M) (o : Nat) (s : St) : KTouch M w (setSt w b o s) :=
  (((((((KTouch.set w hb _ _).trans (KTouch.set _ hb _ _)).trans (KTouch.set _ hb _ _)).trans (KTouch.set _ hb _ _)).trans (KTouch.set _ hb _ _)).trans (KTouch.set _ hb _ _)).trans (KTouch.set _ hb _ _)).trans (KTouch.set _ hb _ _)
theorem setSt_frozen (w : World) (b o : Nat) (s : St) (a : Addr) : (setSt w b o s).frozen? a = w.frozen? a := by
  unfold setSt
  simp only [World.frozen?_setCell]
theorem setCell_far {w : World} {b i j : Nat} {v : Value} (h : i ≠ j) : (w.setCell ⟨b, j, none⟩ v).cell? ⟨b, i, none⟩ = w.cell? ⟨b, i, none⟩ :=
  World.cell?_setCell_other _ _ _ _ (fun e => by injection e with e1 e2; exact h e2.symm)
theorem setSt_off {w : World} {b o : Nat} {s : St} {i : Nat} (h : i < o ∨ o + 8 ≤ i) : (setSt w b o s).cell? ⟨b, i, none⟩ = w.cell? ⟨b, i, none⟩ := by
  unfold setSt
  rw [setCell_far (by omega), setCell_far (by omega), setCell_far (by omega), setCell_far (by omega), setCell_far (by omega), setCell_far (by omega), setCell_far (by omega), setCell_far (by omega)]
theorem setSt_at {w : World} {b o : Nat} {s s' : St} (h : StC w b o s) : StC (setSt w b o s') b o s' := by
  obtain ⟨h0, h1, h2, h3, h4, h5, h6, h7⟩ := h
  unfold setSt
  refine ⟨?_, ?_, ?_, ?_, ?_, ?_, ?_, ?_⟩ <;> simp [go_sem, h0, h1, h2, h3, h4, h5, h6, h7]
theorem StC.off {w w' : World} {b o : Nat} {s : St} (h : StC w b o s) (hc : ∀ i, o ≤ i → i < o + 8 → w'.cell? ⟨b, i, none⟩ = w.cell? ⟨b, i, none⟩) : StC w' b o s :=
  ⟨(hc _ (by omega) (by omega)).trans h.p, (hc _ (by omega) (by omega)).trans h.c0, (hc _ (by omega) (by omega)).trans h.c1, (hc _ (by omega) (by omega)).trans h.c2, (hc _ (by omega) (by omega)).trans h.c3, (hc _ (by omega) (by omega)).trans h.c4, (hc _ (by omega) (by omega)).trans h.c5, (hc _ (by omega) (by omega)).trans h.f⟩
theorem StC.poke {w : World} {b o : Nat} {s : St} (h : StC w b o s) {c : Nat} (hc : c ≤ 5) (n : Int) : StC (w.setCell ⟨b, o + 1 + c, none⟩ (.int .i64 n)) b o (pokeS s c n) := by
  obtain ⟨h0, h1, h2, h3, h4, h5, h6, h7⟩ := h
  match c, hc with
  | 0, _ => refine ⟨?_, ?_, ?_, ?_, ?_, ?_, ?_, ?_⟩ <;> simp [go_sem, pokeS, h0, h1, h2, h3, h4, h5, h6, h7]
  | 1, _ => refine ⟨?_, ?_, ?_, ?_, ?_, ?_, ?_, ?_⟩ <;> simp [go_sem, pokeS, h0, h1, h2, h3, h4, h5, h6, h7]
  | 2, _ => refine ⟨?_, ?_, ?_, ?_, ?_, ?_, ?_, ?_⟩ <;> simp [go_sem, pokeS, h0, h1, h2, h3, h4, h5, h6, h7]
  | 3, _ => refine ⟨?_, ?_, ?_, ?_, ?_, ?_, ?_, ?_⟩ <;> simp [go_sem, pokeS, h0, h1, h2, h3, h4, h5, h6, h7]
  | 4, _ => refine ⟨?_, ?_, ?_, ?_, ?_, ?_, ?_, ?_⟩ <;> simp [go_sem, pokeS, h0, h1, h2, h3, h4, h5, h6, h7]
  | 5, _ => refine ⟨?_, ?_, ?_, ?_, ?_, ?_, ?_, ?_⟩ <;> simp [go_sem, pokeS, h0, h1, h2, h3, h4, h5, h6, h7]
/-- An event in its box. -/
def EvB (W : World) (b : Nat) (t r a q : Int) : Prop := W.heap[b]? = some (.cells #[.int .i64 t, .int .i64 r, .int .i64 a, .int .i64 q] 39 (0, 0))
theorem EvB.lt {W : World} {b : Nat} {t r a q : Int} (h : EvB W b t r a q) : b < W.heap.size := (Array.getElem?_eq_some_iff.1 h).1
theorem EvB.cs {W : World} {b : Nat} {t r a q : Int} (h : EvB W b t r a q) : W.cell? ⟨b, 0, none⟩ = some (.int .i64 t) ∧ W.cell? ⟨b, 1, none⟩ = some (.int .i64 r) ∧ W.cell? ⟨b, 2, none⟩ = some (.int .i64 a) ∧ W.cell? ⟨b, 3, none⟩ = some (.int .i64 q) := by
  have e : W.heap[b]? = _ := h
  simp [World.cell?, e]
theorem EvB.fs {W : World} {b : Nat} {t r a q : Int} (h : EvB W b t r a q) : W.frozen? ⟨b, 0, none⟩ = false ∧ W.frozen? ⟨b, 1, none⟩ = false ∧ W.frozen? ⟨b, 2, none⟩ = false ∧ W.frozen? ⟨b, 3, none⟩ = false := by
  have e : W.heap[b]? = _ := h
  simp [World.frozen?, e]
theorem EvB.set {W : World} {b : Nat} {t r a q : Int} (h : EvB W b t r a q) (t' r' a' q' : Int) : EvB ((((W.setCell ⟨b, 0, none⟩ (.int .i64 t')).setCell ⟨b, 1, none⟩ (.int .i64 r')).setCell ⟨b, 2, none⟩ (.int .i64 a')).setCell ⟨b, 3, none⟩ (.int .i64 q')) b t' r' a' q' := by
  have e : W.heap[b]? = _ := h
  unfold EvB
  simp [World.setCell, Array.getElem?_modify, e]
theorem EvB.at {W : World} {b : Nat} {t r a q : Int} (h : EvB W b t r a q) (a' : Int) : EvB (W.setCell ⟨b, 2, none⟩ (.int .i64 a')) b t r a' q := by
  have e : W.heap[b]? = _ := h
  unfold EvB
  simp [World.setCell, Array.getElem?_modify, e]
theorem EvB.what {W : World} {b : Nat} {t r a q : Int} (h : EvB W b t r a q) (q' : Int) : EvB (W.setCell ⟨b, 3, none⟩ (.int .i64 q')) b t r a q' := by
  have e : W.heap[b]? = _ := h
  unfold EvB
  simp [World.setCell, Array.getElem?_modify, e]
/-- A state in its box. -/
def StB (W : World) (b : Nat) (s : St) : Prop := W.heap[b]? = some (.cells #[.int .i64 s.p, .int .i64 (s.c 0), .int .i64 (s.c 1), .int .i64 (s.c 2), .int .i64 (s.c 3), .int .i64 (s.c 4), .int .i64 (s.c 5), .bool s.f] 73 (0, 0))
theorem StB.cs {W : World} {b : Nat} {s : St} (h : StB W b s) : StC W b 0 s := by
  have e : W.heap[b]? = _ := h
  refine ⟨?_, ?_, ?_, ?_, ?_, ?_, ?_, ?_⟩ <;> simp [World.cell?, e]
/-- Both boxes of a tick, the result's and its own. -/
structure Ev (w W : World) (e2 : Nat) (t r a q : Int) : Prop where
  res : EvB W w.heap.size 0 0 0 0
  own : EvB W e2 t r a q
  ne : e2 ≠ w.heap.size
  ge : w.heap.size ≤ e2
/-- The box laid ahead of the call. -/
theorem ev_box {w w1 : World} (b1 : Below (((w.alloc (.cells #[.int .i64 0, .int .i64 0, .int .i64 0, .int .i64 0] 39)).alloc (.cells #[.int .i64 0, .int .i64 0, .int .i64 0, .int .i64 0] 39)).drew).heap.size (((w.alloc (.cells #[.int .i64 0, .int .i64 0, .int .i64 0, .int .i64 0] 39)).alloc (.cells #[.int .i64 0, .int .i64 0, .int .i64 0, .int .i64 0] 39)).drew) w1) :
    (w1.cell? ⟨w.heap.size + 1, 0, none⟩ = some (.int .i64 0) ∧ w1.cell? ⟨w.heap.size + 1, 1, none⟩ = some (.int .i64 0) ∧ w1.cell? ⟨w.heap.size + 1, 2, none⟩ = some (.int .i64 0) ∧ w1.cell? ⟨w.heap.size + 1, 3, none⟩ = some (.int .i64 0)) ∧ w1.frozen? ⟨w.heap.size + 1, 0, none⟩ = false ∧ w1.frozen? ⟨w.heap.size + 1, 1, none⟩ = false ∧ w1.frozen? ⟨w.heap.size + 1, 2, none⟩ = false ∧ w1.frozen? ⟨w.heap.size + 1, 3, none⟩ = false := by
  have hc := fun o => b1.cell (p := ⟨w.heap.size + 1, o, none⟩) (by simp)
  have hf := fun o => b1.frozen (p := ⟨w.heap.size + 1, o, none⟩) (by simp)
  exact ⟨⟨(hc 0).trans (by simp), (hc 1).trans (by simp), (hc 2).trans (by simp), (hc 3).trans (by simp)⟩, (hf 0).trans (by simp), (hf 1).trans (by simp), (hf 2).trans (by simp), (hf 3).trans (by simp)⟩
/-- The cells of a state are there, and may be written. -/
theorem there_st {W : World} {b o : Nat} {s : St} (h : StC W b o s) (hf : ∀ i, W.frozen? ⟨b, i, none⟩ = false) (nq : Nat) : (W.drewN nq).there b o 8 := by
  obtain ⟨s0, s1, s2, s3, s4, s5, s6, s7⟩ := h
  intro j hj
  have hb : Below W.heap.size W (W.drewN nq) := below_dN (Below.refl _ _) nq
  have hlt : b < W.heap.size := World.block_lt_of_cell? W _ s0
  rw [hb.cell (p := ⟨b, o + j, none⟩) hlt, hb.frozen (p := ⟨b, o + j, none⟩) hlt]
  refine ⟨?_, hf _⟩
  match j, hj with
  | 0, _ => rw [Nat.add_zero, s0]; rfl
  | 1, _ => rw [s1]; rfl
  | 2, _ => rw [s2]; rfl
  | 3, _ => rw [s3]; rfl
  | 4, _ => rw [s4]; rfl
  | 5, _ => rw [s5]; rfl
  | 6, _ => rw [s6]; rfl
  | 7, _ => rw [s7]; rfl
end Go.Proofs.YtajfgmlockjmhaiGreatDoor
namespace Go.Proofs.YtajfgmlockjmhaiGreatDoor
open Go.RowKit

theorem stb_fz {w : World} {b : Nat} {s : St} (h : StB w b s) (o : Nat) : w.frozen? ⟨b, o, none⟩ = false := by
  have e : w.heap[b]? = _ := h
  simp [World.frozen?, e]
end Go.Proofs.YtajfgmlockjmhaiGreatDoor
namespace Go.Proofs.YtajfgmlockjmhaiGreatDoor

/-- What was done: so many ticks, or a cell poked. -/
inductive LStp where
  | go (n : Nat)
  | poke (r c n : Int)
/-- So many ticks. -/
def ticksK (p : PD) : Nat → KD → KD
  | 0, k => k
  | n + 1, k => (tickK p p.spans (ticksK p n k)).1
/-- A step done. -/
def doK (p : PD) (k : KD) : LStp → KD
  | .go n => ticksK p n k
  | .poke r c n => pokeK k r c n
/-- All of them, on a new kernel. -/
def redoK (p : PD) (l : List LStp) : KD := l.foldl (doK p) (newK p)
/-- The records that are whole, with their sizes; bytes that belong to none; how many bytes are safe; has it stopped; in so many steps it stops (below 0: never). -/
structure LgD where
  recs : List (LStp × Nat)
  part : Nat
  safe : Nat
  stop : Bool
  fail : Int
def sizeR : List (LStp × Nat) → Nat
  | [] => 0
  | r :: l => r.2 + sizeR l
def LgD.bytes (d : LgD) : Nat := sizeR d.recs + d.part
def LgD.k (p : PD) (d : LgD) : KD := redoK p (d.recs.map (·.1))
def newL : LgD := ⟨[], 0, 0, false, -1⟩
/-- The next step: does it stop there? -/
def LgD.last (d : LgD) : Bool := decide (d.fail = 0)
def LgD.less (d : LgD) : Int := if 0 < d.fail then IntKind.wrap .i64 (d.fail - 1) else d.fail
/-- A record is written, or half of it. -/
def putR (d : LgD) (s : LStp) (sz : Nat) : LgD := if d.last = true then ⟨d.recs, d.part + sz / 2, d.safe, true, d.fail⟩ else ⟨d.recs ++ [(s, sz)], d.part, d.safe, d.stop, d.less⟩
/-- What is wrong with a Go ahead of its record. -/
def goE (p : PD) (d : LgD) (n : Int) : Int := if d.stop = true then 6 else if n < 0 ∨ 100 < n then 1 else if 2000 < (d.k p).time + n then 4 else 0
def goEnd (p : PD) (d : LgD) (n : Int) : Int := if goE p d n = 0 then (if d.last = true then 6 else 0) else goE p d n
def goL (p : PD) (d : LgD) (n : Int) (sz : Nat) : LgD := if goE p d n = 0 then putR d (.go n.toNat) sz else d
def syncE (d : LgD) : Int := if d.stop = true ∨ d.last = true then 6 else 0
def syncL (d : LgD) : LgD := if d.stop = true then d else if d.last = true then ⟨d.recs, d.part, d.safe, true, d.fail⟩ else ⟨d.recs, d.part, d.bytes, d.stop, d.less⟩
/-- The records that are whole among so many bytes. -/
def wholeR : Nat → List (LStp × Nat) → List (LStp × Nat)
  | _, [] => []
  | m, r :: l => if r.2 ≤ m then r :: wholeR (m - r.2) l else []
/-- So many bytes are left behind a crash. -/
def LgD.high (d : LgD) (keep : Int) : Nat := min d.bytes (d.safe + keep.toNat)
def crashL (d : LgD) (keep : Int) : LgD := ⟨wholeR (d.high keep) d.recs, 0, sizeR (wholeR (d.high keep) d.recs), false, -1⟩
/-- A log that is right. -/
structure LOk (p : PD) (d : LgD) : Prop where
  tm : (d.k p).time ≤ 2000
  sz : ∀ r ∈ d.recs, 2 ≤ r.2 ∧ r.2 ≤ 100000
  safe : d.safe ≤ sizeR d.recs
  part : d.stop = false → d.part = 0
  few : d.part ≤ 50000
  len : d.recs.length ≤ 40
theorem sizeR_append (l m : List (LStp × Nat)) : sizeR (l ++ m) = sizeR l + sizeR m := by
  induction l with
  | nil => simp [sizeR]
  | cons r l ih => simp [sizeR, ih]; omega
theorem redoK_append (p : PD) (l : List LStp) (s : LStp) : redoK p (l ++ [s]) = doK p (redoK p l) s := by simp [redoK, List.foldl_append]
theorem ticksK_ok {p : PD} (hp : plchk p = 0) : ∀ (n : Nat) {k : KD}, KOk p k → KOk p (ticksK p n k)
  | 0, _, h => h
  | n + 1, _, h => tick_ok hp (ticksK_ok hp n h)
theorem ticksK_time (p : PD) : ∀ (n : Nat) (k : KD), (ticksK p n k).time = k.time + n
  | 0, k => by simp [ticksK]
  | n + 1, k => by
    show (tickK p p.spans (ticksK p n k)).1.time = _
    rw [tick_time, ticksK_time p n k]
    push_cast
    omega
theorem wholeR_le : ∀ (m : Nat) (l : List (LStp × Nat)), sizeR (wholeR m l) ≤ m
  | m, [] => by simp [wholeR, sizeR]
  | m, r :: l => by
    unfold wholeR
    split
    · have := wholeR_le (m - r.2) l
      simp only [sizeR]
      omega
    · simp [sizeR]
theorem wholeR_pre : ∀ (m : Nat) (l : List (LStp × Nat)), ∃ n, wholeR m l = l.take n
  | m, [] => ⟨0, by simp [wholeR]⟩
  | m, r :: l => by
    unfold wholeR
    split
    · obtain ⟨n, hn⟩ := wholeR_pre (m - r.2) l
      exact ⟨n + 1, by rw [hn]; rfl⟩
    · exact ⟨0, rfl⟩
theorem doK_ok {p : PD} (hp : plchk p = 0) {k : KD} (h : KOk p k) (s : LStp) : KOk p (doK p k s) := by
  cases s with
  | go n => exact ticksK_ok hp n h
  | poke r c n => exact poke_ok h r c n
theorem fold_ok {p : PD} (hp : plchk p = 0) : ∀ (l : List LStp) {k : KD}, KOk p k → KOk p (l.foldl (doK p) k)
  | [], _, h => h
  | s :: l, _, h => fold_ok hp l (doK_ok hp h s)
theorem redo_ok {p : PD} (hp : plchk p = 0) (l : List LStp) : KOk p (redoK p l) := fold_ok hp l (new_ok hp)
theorem pokeK_tm (k : KD) (r c n : Int) : (pokeK k r c n).time = k.time := by unfold pokeK; split <;> rfl
theorem newL_ok {p : PD} : LOk p newL := ⟨by show (0 : Int) ≤ 2000; omega, fun r hr => (by cases hr), Nat.le_refl _, fun _ => rfl, Nat.zero_le _, Nat.zero_le _⟩
theorem putR_ok {p : PD} {d : LgD} {s : LStp} {sz : Nat} (h : LOk p d) (hs : d.stop = false) (h2 : 2 ≤ sz) (h3 : sz ≤ 100000) (hn : d.recs.length < 40) (ht : (doK p (d.k p) s).time ≤ 2000) : LOk p (putR d s sz) := by
  have h0 := h.part hs
  unfold putR
  split
  · exact ⟨h.tm, h.sz, h.safe, fun e => (by cases e), by show d.part + sz / 2 ≤ 50000; omega, h.len⟩
  · refine ⟨?_, fun r hr => ?_, ?_, fun _ => h0, h.few, by show (d.recs ++ [(s, sz)]).length ≤ 40; rw [List.length_append, List.length_singleton]; omega⟩
    · show (redoK p ((d.recs ++ [(s, sz)]).map (·.1))).time ≤ 2000
      rw [List.map_append, List.map_singleton, redoK_append]
      exact ht
    · rcases List.mem_append.1 hr with hr | hr
      · exact h.sz r hr
      · rw [List.mem_singleton] at hr
        subst hr
        exact ⟨h2, h3⟩
    · show d.safe ≤ sizeR (d.recs ++ [(s, sz)])
      rw [sizeR_append]
      have := h.safe
      omega
theorem goE_zero {p : PD} {d : LgD} {n : Int} (h : goE p d n = 0) : d.stop = false ∧ 0 ≤ n ∧ n ≤ 100 ∧ (d.k p).time + n ≤ 2000 := by
  unfold goE at h
  split at h
  · cases h
  · rename_i hs
    split at h
    · cases h
    · split at h
      · cases h
      · exact ⟨by simpa using hs, by omega, by omega, by omega⟩
theorem goL_ok {p : PD} {d : LgD} {n : Int} {sz : Nat} (h : LOk p d) (h2 : 2 ≤ sz) (h3 : sz ≤ 100000) (hn : d.recs.length < 40) : LOk p (goL p d n sz) := by
  unfold goL
  split
  · rename_i he
    obtain ⟨hs, h0, _, ht⟩ := goE_zero he
    refine putR_ok h hs h2 h3 hn ?_
    show (ticksK p n.toNat (d.k p)).time ≤ 2000
    rw [ticksK_time]
    omega
  · exact h
theorem syncL_ok {p : PD} {d : LgD} (h : LOk p d) : LOk p (syncL d) := by
  unfold syncL
  split
  · exact h
  · rename_i hs
    have h0 := h.part (by simpa using hs)
    split
    · exact ⟨h.tm, h.sz, h.safe, fun e => (by cases e), h.few, h.len⟩
    · exact ⟨h.tm, h.sz, by show sizeR d.recs + d.part ≤ sizeR d.recs; omega, fun _ => h0, h.few, h.len⟩
end Go.Proofs.YtajfgmlockjmhaiGreatDoor
namespace Go.Proofs.YtajfgmlockjmhaiGreatDoor
open Go.RowKit

/-- What package log does, in every world of a kind: K w0 w p d cb F: made in the world w0, of the plan p, a log lies at block cb; it is d, and all that it has lies in the blocks F. -/
structure LogC (G : World → Prop) where
  K : World → World → PD → LgD → Nat → List Nat → Prop
  all : ∀ w w', G w → Below w.heap.size w w' → G w'
  since : ∀ {w0 w p d cb F}, K w0 w p d cb F → Below w0.heap.size w0 w
  ge : ∀ {w0 w p d cb F}, K w0 w p d cb F → ∀ g ∈ F, w0.heap.size ≤ g ∧ g < w.heap.size
  lower : ∀ {w1 w0 w p d cb F}, Below w1.heap.size w1 w0 → K w0 w p d cb F → K w1 w p d cb F
  frame : ∀ {w0 w w' p d cb F M}, K w0 w p d cb F → KTouch M w w' → (∀ m ∈ M, m ∉ F ∧ w0.heap.size ≤ m) → K w0 w' p d cb F
  new : ∀ (p : PD) (vc vs vw : Value) (W : World), G W → Pln W vc vs vw p → plchk p = 0 → Calls Tryz.prog 17 #[plV vc p.ticks vs vw] W fun e w' => ∃ cb F, e = .returned (.tuple #[.pointer (some ⟨cb, 0, none⟩), .nilIface]) ∧ K W w' p newL cb F
  no : ∀ (p : PD) (vc vs vw : Value) (W : World), G W → Pln W vc vs vw p → plchk p ≠ 0 → Calls Tryz.prog 17 #[plV vc p.ticks vs vw] W fun e w' => ∃ x, e = .returned (.tuple #[.pointer x, wErr (plchk p)]) ∧ Below W.heap.size W w'
  go : ∀ {w0 W p d cb F} (n : Int), G w0 → K w0 W p d cb F → plchk p = 0 → LOk p d → Calls Tryz.prog 19 #[.pointer (some ⟨cb, 0, none⟩), .int .i64 n] W fun e w' => e = .returned (wErr (goEnd p d n)) ∧ ∃ sz F', 2 ≤ sz ∧ sz ≤ 100000 ∧ K w0 w' p (goL p d n sz) cb F' ∧ KTouch F W w' ∧ ∀ g ∈ F', g ∈ F ∨ W.heap.size ≤ g
/-- A call on a log that only reads: what it answers. -/
def LogRd {G : World → Prop} (C : LogC G) (f : FuncId) (v : LgD → PD → Value) : Prop := ∀ {w0 W p d cb F}, C.K w0 W p d cb F → LOk p d → plchk p = 0 → Calls Tryz.prog f #[.pointer (some ⟨cb, 0, none⟩)] W fun e w' => e = .returned (v d p) ∧ Below W.heap.size W w'
end Go.Proofs.YtajfgmlockjmhaiGreatDoor
namespace Go.Proofs.YtajfgmlockjmhaiGreatDoor
open Go.RowKit

def LogCrash {G : World → Prop} (C : LogC G) : Prop := ∀ {w0 W p d cb F} (n : Int), G w0 → C.K w0 W p d cb F → plchk p = 0 → LOk p d → Calls Tryz.prog 22 #[.pointer (some ⟨cb, 0, none⟩), .int .i64 n] W fun e w' => (∃ v, e = .returned v) ∧ ∃ F', C.K w0 w' p (crashL d n) cb F' ∧ KTouch F W w' ∧ ∀ g ∈ F', g ∈ F ∨ W.heap.size ≤ g
end Go.Proofs.YtajfgmlockjmhaiGreatDoor
namespace Go.Proofs.YtajfgmlockjmhaiGreatDoor
open Go.RowKit

def LogSync {G : World → Prop} (C : LogC G) : Prop := ∀ {w0 W p d cb F}, G w0 → C.K w0 W p d cb F → plchk p = 0 → LOk p d → Calls Tryz.prog 20 #[.pointer (some ⟨cb, 0, none⟩)] W fun e w' => e = .returned (wErr (syncE d)) ∧ ∃ F', C.K w0 w' p (syncL d) cb F' ∧ KTouch F W w' ∧ ∀ g ∈ F', g ∈ F ∨ W.heap.size ≤ g
end Go.Proofs.YtajfgmlockjmhaiGreatDoor
namespace Go.Proofs.YtajfgmlockjmhaiGreatDoor
open Go.RowKit

def LogState {G : World → Prop} (C : LogC G) : Prop := ∀ {w0 W p d cb F} (r : Int), C.K w0 W p d cb F → LOk p d → plchk p = 0 → Calls Tryz.prog 31 #[.pointer (some ⟨cb, 0, none⟩), .int .i64 r] W fun e w' => e = .returned (.tuple #[stA (roomK (d.k p) r), wErr (errB (noRoom (d.k p) r))]) ∧ Below W.heap.size W w'
end Go.Proofs.YtajfgmlockjmhaiGreatDoor
namespace Go.Proofs.YtajfgmlockjmhaiGreatDoor

theorem goE_in {p : PD} {d : LgD} (hs : d.stop = false) {n : Int} (h0 : 0 ≤ n) (h1 : n ≤ 100) (ht : (d.k p).time + n ≤ 2000) : goE p d n = 0 := by
  unfold goE
  rw [if_neg (by rw [hs]; decide), if_neg (by omega), if_neg (by omega)]
/-- So many ticks are done. -/
theorem go_done {p : PD} {d : LgD} (hs : d.stop = false) (hf : d.fail ≠ 0) {n : Int} (h0 : 0 ≤ n) (h1 : n ≤ 100) (ht : (d.k p).time + n ≤ 2000) (sz : Nat) : goEnd p d n = 0 ∧ goL p d n sz = ⟨d.recs ++ [(.go n.toNat, sz)], d.part, d.safe, d.stop, d.less⟩ ∧ ((goL p d n sz).k p).time = (d.k p).time + n := by
  have he := goE_in hs h0 h1 ht
  have hl : d.last = false := by
    unfold LgD.last
    exact decide_eq_false hf
  have hg : goL p d n sz = ⟨d.recs ++ [(.go n.toNat, sz)], d.part, d.safe, d.stop, d.less⟩ := by
    unfold goL putR
    rw [he, if_pos rfl, hl, if_neg (by decide)]
  refine ⟨?_, hg, ?_⟩
  · unfold goEnd
    rw [he, if_pos rfl, hl, if_neg (by decide)]
  · rw [hg]
    show (redoK p ((d.recs ++ [(LStp.go n.toNat, sz)]).map (·.1))).time = _
    rw [List.map_append, List.map_singleton, redoK_append]
    show (ticksK p n.toNat (d.k p)).time = _
    rw [ticksK_time]
    omega
theorem sync_done {d : LgD} (hs : d.stop = false) (hf : d.fail ≠ 0) : syncE d = 0 ∧ syncL d = ⟨d.recs, d.part, d.bytes, d.stop, d.less⟩ := by
  have hl : d.last = false := by
    unfold LgD.last
    exact decide_eq_false hf
  refine ⟨?_, ?_⟩
  · unfold syncE
    rw [if_neg (by rw [hs, hl]; decide)]
  · unfold syncL
    rw [if_neg (by rw [hs]; decide), hl, if_neg (by decide)]
/-- Behind so many steps of a log that is to stop behind 'a' ones. -/
structure Stps (p : PD) (a s : Int) (d : LgD) : Prop where
  ok : LOk p d
  tm : (d.k p).time ≤ 15
  len : (d.recs.length : Int) ≤ (d.k p).time
  ab : a ≤ 15
  on : s ≤ a → d.stop = false ∧ d.fail = a - s
  off : a < s → d.stop = true
end Go.Proofs.YtajfgmlockjmhaiGreatDoor
namespace Go.Proofs.YtajfgmlockjmhaiGreatDoor

theorem bytes_safe {p : PD} {d : LgD} (h : LOk p d) : d.safe ≤ d.bytes := by
  have := h.safe
  unfold LgD.bytes
  omega
end Go.Proofs.YtajfgmlockjmhaiGreatDoor
namespace Go.Proofs.YtajfgmlockjmhaiGreatDoor

def tkA (n s : Nat) : LgD := ⟨[(.go n, s)], 0, 0, false, -1⟩
def tkS (n s : Nat) : LgD := ⟨[(.go n, s)], 0, s, false, -1⟩
def tkB (sy : Bool) (n s m s2 : Nat) : LgD := ⟨[(.go n, s), (.go m, s2)], 0, if sy = true then s else 0, false, -1⟩
def tkD (n s m s3 : Nat) : LgD := ⟨[(.go n, s), (.go m, s3)], 0, s, false, -1⟩
theorem ticksK_add (p : PD) (k : KD) (n : Nat) : ∀ m, ticksK p m (ticksK p n k) = ticksK p (n + m) k
  | 0 => rfl
  | m + 1 => by
    show (tickK p p.spans (ticksK p m (ticksK p n k))).1 = (tickK p p.spans (ticksK p (n + m) k)).1
    rw [ticksK_add p k n m]
theorem tkS_k (p : PD) (n s : Nat) : (tkS n s).k p = ticksK p n (newK p) := rfl
theorem tkD_k (p : PD) (n s m s3 : Nat) : (tkD n s m s3).k p = ticksK p (n + m) (newK p) := ticksK_add p (newK p) n m
theorem newK_time (p : PD) : (newK p).time = 0 := rfl
theorem tk_go1 (p : PD) {n : Nat} (hn : n ≤ 60) (s : Nat) : goEnd p newL n = 0 ∧ goL p newL n s = tkA n s := by
  obtain ⟨h1, h2, _⟩ := go_done (p := p) (d := newL) rfl (by decide) (n := (n : Int)) (by omega) (by omega) (by show (newK p).time + (n : Int) ≤ 2000; rw [newK_time]; omega) s
  exact ⟨h1, by rw [h2]; rfl⟩
theorem tk_sync (n s : Nat) : syncE (tkA n s) = 0 ∧ syncL (tkA n s) = tkS n s := by
  obtain ⟨h1, h2⟩ := sync_done (d := tkA n s) rfl (by show (-1 : Int) ≠ 0; decide)
  refine ⟨h1, ?_⟩
  rw [h2]
  show (⟨[(.go n, s)], 0, s + 0 + 0, false, -1⟩ : LgD) = tkS n s
  rfl
theorem tk_go2 (p : PD) {n m : Nat} (hn : n ≤ 60) (hm : m ≤ 60) (sy : Bool) (s s2 : Nat) : goEnd p (if sy = true then tkS n s else tkA n s) m = 0 ∧ goL p (if sy = true then tkS n s else tkA n s) m s2 = tkB sy n s m s2 := by
  have ht : (ticksK p n (newK p)).time + (m : Int) ≤ 2000 := by
    rw [ticksK_time, newK_time]
    omega
  cases sy with
  | true =>
    obtain ⟨h1, h2, _⟩ := go_done (p := p) (d := tkS n s) rfl (by show (-1 : Int) ≠ 0; decide) (n := (m : Int)) (by omega) (by omega) ht s2
    exact ⟨h1, h2⟩
  | false =>
    obtain ⟨h1, h2, _⟩ := go_done (p := p) (d := tkA n s) rfl (by show (-1 : Int) ≠ 0; decide) (n := (m : Int)) (by omega) (by omega) ht s2
    exact ⟨h1, h2⟩
theorem tk_crash {sy : Bool} {n s m s2 : Nat} (hs : 2 ≤ s) (hs2 : 2 ≤ s2) : crashL (tkB sy n s m s2) 0 = if sy = true then tkS n s else newL := by
  cases sy with
  | true =>
    have hh : (tkB true n s m s2).high 0 = s := by
      unfold LgD.high LgD.bytes tkB
      simp [sizeR]
    have hw : wholeR s [(LStp.go n, s), (LStp.go m, s2)] = [(LStp.go n, s)] := by
      rw [wholeR, if_pos (Nat.le_refl _), Nat.sub_self, wholeR, if_neg (by show ¬ s2 ≤ 0; omega)]
    unfold crashL
    rw [hh]
    show (⟨wholeR s [(LStp.go n, s), (LStp.go m, s2)], 0, sizeR (wholeR s [(LStp.go n, s), (LStp.go m, s2)]), false, -1⟩ : LgD) = _
    rw [hw]
    rfl
  | false =>
    have hh : (tkB false n s m s2).high 0 = 0 := by
      unfold LgD.high LgD.bytes tkB
      simp [sizeR]
    have hw : wholeR 0 [(LStp.go n, s), (LStp.go m, s2)] = [] := by
      rw [wholeR, if_neg (by show ¬ s ≤ 0; omega)]
    unfold crashL
    rw [hh]
    show (⟨wholeR 0 [(LStp.go n, s), (LStp.go m, s2)], 0, sizeR (wholeR 0 [(LStp.go n, s), (LStp.go m, s2)]), false, -1⟩ : LgD) = _
    rw [hw]
    rfl
theorem tk_go3 (p : PD) {n m : Nat} (hn : n ≤ 60) (hm : m ≤ 60) (s s3 : Nat) : goEnd p (tkS n s) m = 0 ∧ goL p (tkS n s) m s3 = tkD n s m s3 := by
  have := tk_go2 p hn hm true s s3
  exact this
end Go.Proofs.YtajfgmlockjmhaiGreatDoor
