/-
  framelaw1.CodeBack: what the walk asks of each call.
-/
import Derived.Test.YtfneffmiignapaaDoorBackMath
import Derived.Test.YtfneffmiignapaaDoorParse
import Derived.Test.YtfneffmiignapaaDoorPrint
import Derived.Test.YtfneffmiignapaaDoorSame
namespace Go.Proofs.YtfneffmiignapaaDoor
open Go.RowKit

/-- What stays behind each call of the law: the tables, the code handed in, the op in its box. -/
structure Stay (w : World) (v : Value) (l : List O3) (o : O3) (W : World) : Prop where
  tabs : Tabs2 W
  ops : Ops W v l
  o0 : W.cell? ⟨w.heap.size, 0, none⟩ = some (.int .i64 o.1)
  o1 : W.cell? ⟨w.heap.size, 1, none⟩ = some (.int .i64 o.2.1)
  o2 : W.cell? ⟨w.heap.size, 2, none⟩ = some (.int .i64 o.2.2)
  lt : w.heap.size < W.heap.size
  below : Below w.heap.size w W
theorem Stay.all {w : World} {v : Value} {l : List O3} {o : O3} {W W' : World} (h : Stay w v l o W) (hb : Below W.heap.size W W') : Stay w v l o W' :=
  ⟨h.tabs.all hb, h.ops.all hb, (hb.cell (p := ⟨w.heap.size, 0, none⟩) h.lt).trans h.o0, (hb.cell (p := ⟨w.heap.size, 1, none⟩) h.lt).trans h.o1, (hb.cell (p := ⟨w.heap.size, 2, none⟩) h.lt).trans h.o2, Nat.lt_of_lt_of_le h.lt hb.size, h.below.trans (hb.mono h.below.size)⟩
theorem Stay.alloc {w : World} {v : Value} {l : List O3} {o : O3} {W : World} (h : Stay w v l o W) (O : Obj) : Stay w v l o (W.alloc O) := h.all ((Below.refl _ _).alloc (Nat.le_refl _) _)
theorem Stay.first {w : World} {v : Value} {l : List O3} (o : O3) (ht : Tabs2 w) (ho : Ops w v l) : Stay w v l o (w.alloc (.cells #[.int .i64 o.1, .int .i64 o.2.1, .int .i64 o.2.2] 24)) :=
  ⟨ht.alloc _, ho.all ((Below.refl _ _).alloc (Nat.le_refl _) _), by simp, by simp, by simp, by simp, (Below.refl _ _).alloc (Nat.le_refl _) _⟩

def factT : ByteArray := ⟨#[115, 101, 116, 32, 49, 32, 53, 10, 115, 101, 110, 100, 32, 49, 32, 48, 10, 106, 117, 109, 112, 32, 48, 10]⟩
def factL : List O3 := [(1, 1, 5), (8, 1, 0), (7, 0, 0)]
theorem itoa_small {z : Int} (h0 : 0 ≤ z) (h1 : z < 10) : Lib.itoa z = [UInt8.ofNat (48 + z.toNat)] := by rw [itoa_pos h0]; exact Lib.decDigits_one (by omega)
theorem fact_text : textB factL = factT.data.toList := by
  simp [textB, factL, opB, lineB, tail, nameB, numsB, itoa_small, factT]
theorem fact_parse : parseB factT.data.toList = (factL, 0) := by rw [← fact_text]; exact parse_print (by decide)

theorem parse_fact (W : World) (ht : Tabs2 W) :
    Calls Tryd.prog 7 #[.string ⟨#[115, 101, 116, 32, 49, 32, 53, 10, 115, 101, 110, 100, 32, 49, 32, 48, 10, 106, 117, 109, 112, 32, 48, 10]⟩] W fun e w' => ∃ b off cap, e = .returned (.tuple #[.slice (some ⟨b, off, none⟩) 3 cap, .nilIface]) ∧
      w'.cell? ⟨b, off + 2, none⟩ = some (.int .i64 5) ∧ w'.cell? ⟨b, off + 3, none⟩ = some (.int .i64 8) ∧ w'.cell? ⟨b, off + 6 + 1, none⟩ = some (.int .i64 0) ∧ Below W.heap.size W w' := by
  refine (parse_any factT W ht (by decide)).mono ?_
  rintro e w' ⟨vv, rfl, ho, hb⟩
  rw [fact_parse] at ho ⊢
  rcases ho with ⟨h, _⟩ | ⟨b, off, cap, rfl, _, hc⟩
  · cases h
  · exact ⟨b, off, cap, rfl, (hc 0 _ rfl).2.2, (hc 1 _ rfl).1, (hc 2 _ rfl).2.1, hb⟩
theorem parse_good (t : ByteArray) (X : List O3) (W : World) (ht : Tabs2 W) (hl : t.size ≤ 1099511627776) (h : parseB t.data.toList = (X, 0)) :
    Calls Tryd.prog 7 #[.string t] W fun e w' => ∃ ao n cap, e = .returned (.tuple #[.slice ao n cap, .nilIface]) ∧ Ops w' (.slice ao n cap) X ∧ Below W.heap.size W w' := by
  refine (parse_any t W ht hl).mono ?_
  rintro e w' ⟨vv, rfl, ho, hb⟩
  rw [h] at ho ⊢
  obtain ⟨ao, cap, rfl⟩ := ho.form
  exact ⟨ao, _, cap, rfl, ho, hb⟩
theorem parse_fault (t : ByteArray) (W : World) (ht : Tabs2 W) (hl : t.size ≤ 1099511627776) (h : (parseB t.data.toList).2 ≠ 0) :
    Calls Tryd.prog 7 #[.string t] W fun e w' => ∃ ao n cap p, e = .returned (.tuple #[.slice ao n cap, .iface 58 p]) ∧ Below W.heap.size W w' := by
  refine (parse_any t W ht hl).mono ?_
  rintro e w' ⟨vv, rfl, ho, hb⟩
  obtain ⟨ao, cap, rfl⟩ := ho.form
  exact ⟨ao, _, cap, _, by unfold errV; rw [if_neg h], hb⟩
theorem print_text (v : Value) (X : List O3) (s : ByteArray) (W : World) (ht : Tabs2 W) (ho : Ops W v X) (h : (chk X).2 = 0) (hs : textB X = s.data.toList) :
    Calls Tryd.prog 8 #[v] W fun e w' => e = .returned (.tuple #[.string s, .nilIface]) ∧ Below W.heap.size W w' := by
  have := print_any v X W ht.tabs ho
  unfold textOf at this
  rw [if_pos h, h, hs] at this
  exact this
theorem print_fault (v : Value) (X : List O3) (W : World) (ht : Tabs2 W) (ho : Ops W v X) (h : (chk X).2 ≠ 0) :
    Calls Tryd.prog 8 #[v] W fun e w' => ∃ s p, e = .returned (.tuple #[.string s, .iface 58 p]) ∧ Below W.heap.size W w' := by
  refine (print_any v X W ht.tabs ho).mono ?_
  rintro e w' ⟨rfl, hb⟩
  exact ⟨_, _, by unfold errV; rw [if_neg h], hb⟩
theorem check_fault (v : Value) (X : List O3) (W : World) (ht : Tabs2 W) (ho : Ops W v X) (h : (chk X).2 ≠ 0) :
    Calls Tryd.prog 10 #[v] W fun e w' => ∃ i p, e = .returned (.tuple #[.int .i64 i, .iface 58 p]) ∧ Below W.heap.size W w' := by
  refine (check_any v X W ht.tabs.forms ho).mono ?_
  rintro e w' ⟨rfl, hb⟩
  exact ⟨_, _, by unfold errV; rw [if_neg h], hb⟩
theorem check_good (v : Value) (X : List O3) (W : World) (ht : Tabs2 W) (ho : Ops W v X) (h : (chk X).2 = 0) :
    Calls Tryd.prog 10 #[v] W fun e w' => ∃ i, e = .returned (.tuple #[.int .i64 i, .nilIface]) ∧ Below W.heap.size W w' := by
  refine (check_any v X W ht.tabs.forms ho).mono ?_
  rintro e w' ⟨rfl, hb⟩
  exact ⟨_, by rw [h]; rfl, hb⟩
theorem check_some (v : Value) (X : List O3) (W : World) (ht : Tabs2 W) (ho : Ops W v X) :
    Calls Tryd.prog 10 #[v] W fun e w' => ∃ i p, e = .returned (.tuple #[.int .i64 i, p]) ∧ Below W.heap.size W w' := by
  refine (check_any v X W ht.tabs.forms ho).mono ?_
  rintro e w' ⟨rfl, hb⟩
  exact ⟨_, _, rfl, hb⟩

theorem ops_cells {W : World} {b off : Nat} {l : List O3} (hc : ∀ (i : Nat) o, l[i]? = some o → W.cell? ⟨b, off + i * 3, none⟩ = some (.int .i64 o.1) ∧ W.cell? ⟨b, off + i * 3 + 1, none⟩ = some (.int .i64 o.2.1) ∧ W.cell? ⟨b, off + i * 3 + 2, none⟩ = some (.int .i64 o.2.2)) :
    ∀ j u, (cells3 l)[j]? = some u → W.cell? ((⟨b, off, none⟩ : Addr).add j) = some u := by
  intro j u hu
  have hl : (cells3 l).length = l.length * 3 := by simp [cells3, List.length_flatMap]; clear hu hc; induction l <;> simp_all; omega
  have hj : j < l.length * 3 := by
    rw [← hl]
    exact (List.getElem?_eq_some_iff.1 hu).1
  obtain ⟨o, ho⟩ : ∃ o, l[j / 3]? = some o := ⟨l[j / 3]'(by omega), List.getElem?_eq_getElem _⟩
  obtain ⟨h1, h2, h3⟩ := hc _ o ho
  obtain ⟨g1, g2, g3⟩ := cells3_at l _ o ho
  have ha : (⟨b, off, none⟩ : Addr).add j = ⟨b, off + j, none⟩ := by
    unfold Addr.add
    split
    · rename_i h; subst h; rfl
    · rfl
  rw [ha]
  have hm : j % 3 = 0 ∨ j % 3 = 1 ∨ j % 3 = 2 := by omega
  rcases hm with h | h | h
  · rw [show j / 3 * 3 = j by omega] at h1 g1; rw [g1] at hu; cases hu; exact h1
  · rw [show j / 3 * 3 + 1 = j by omega] at g2; rw [show off + j / 3 * 3 + 1 = off + j by omega] at h2; rw [g2] at hu; cases hu; exact h2
  · rw [show j / 3 * 3 + 2 = j by omega] at g3; rw [show off + j / 3 * 3 + 2 = off + j by omega] at h3; rw [g3] at hu; cases hu; exact h3
theorem cells3_len (l : List O3) : (cells3 l).length = l.length * 3 := by
  simp [cells3, List.length_flatMap]; induction l <;> simp_all; omega
theorem cells3_one (l : List O3) : ∀ u ∈ cells3 l, u.oneCell' = true := by
  intro u hu
  simp only [cells3, List.mem_flatMap] at hu
  obtain ⟨o, _, hu⟩ := hu
  simp at hu
  rcases hu with rfl | rfl | rfl <;> rfl
theorem three_new1 (w : World) (x y z : Value) (t : TypeId) : ∀ j u, [x, y, z][j]? = some u → (w.alloc (.cells #[x, y, z] t)).cell? ((⟨w.heap.size, 0, none⟩ : Addr).add j) = some u := by
  intro j u hj
  have hh := World.alloc_heap_new w (.cells #[x, y, z] t)
  match j, hj with
  | 0, hj => simp at hj; subst hj; show World.cell? _ ⟨w.heap.size, 0, none⟩ = _; rw [Lib.cell_of_heap hh]; rfl
  | 1, hj => simp at hj; subst hj; show World.cell? _ ⟨w.heap.size, 0 + 1, none⟩ = _; rw [Lib.cell_of_heap hh]; rfl
  | 2, hj => simp at hj; subst hj; show World.cell? _ ⟨w.heap.size, 0 + 2, none⟩ = _; rw [Lib.cell_of_heap hh]; rfl
theorem ops_one' (o : O3) (w : World) : Ops (w.alloc (.cells #[.int .i64 o.1, .int .i64 o.2.1, .int .i64 o.2.2] 24)) (.slice (some ⟨w.heap.size, 0, none⟩) 1 1) [o] :=
  Or.inr ⟨w.heap.size, 0, 1, rfl, by simp, fun i x hx => by
    match i, hx with
    | 0, hx => simp at hx; subst hx; simp
    | i + 1, hx => simp at hx⟩

theorem back_form {w : World} {v : Value} {l : List O3} (h : Ops w v l) (h0 : l.length ≠ 0) : ∃ b off cap, v = .slice (some ⟨b, off, none⟩) l.length cap ∧ b < w.heap.size ∧ ∀ (i : Nat) o, l[i]? = some o → w.cell? ⟨b, off + i * 3, none⟩ = some (.int .i64 o.1) ∧ w.cell? ⟨b, off + i * 3 + 1, none⟩ = some (.int .i64 o.2.1) ∧ w.cell? ⟨b, off + i * 3 + 2, none⟩ = some (.int .i64 o.2.2) := by
  rcases h with ⟨rfl, _⟩ | ⟨b, off, cap, h⟩
  · simp at h0
  · exact ⟨b, off, cap, h⟩
theorem back_cells {w W : World} {b off cap n : Nat} {l : List O3} {o : O3} (h : Stay w (.slice (some ⟨b, off, none⟩) n cap) l o W) : ∀ (i : Nat) x, l[i]? = some x → W.cell? ⟨b, off + i * 3, none⟩ = some (.int .i64 x.1) ∧ W.cell? ⟨b, off + i * 3 + 1, none⟩ = some (.int .i64 x.2.1) ∧ W.cell? ⟨b, off + i * 3 + 2, none⟩ = some (.int .i64 x.2.2) := by
  rcases h.ops with ⟨rfl, _⟩ | ⟨b', off', cap', he, _, hc⟩
  · intro i x hx; simp at hx
  · cases he; exact hc
theorem ops_more {w : World} {base : Nat} {v : Value} {l : List O3} {o : O3} (h : w.ownsRow base 24 3 v (l.length + 1) (cells3 l ++ [.int .i64 o.1, .int .i64 o.2.1, .int .i64 o.2.2])) : Ops w v (l ++ [o]) := by
  rw [← cells3_snoc] at h
  exact ops_of_own (l := l ++ [o]) (by simpa using h)

end Go.Proofs.YtfneffmiignapaaDoor
