/-
  SnRead0, Fits, Check, RoomBase, RoomParts, RoomNew: joined into one text.
-/
import Derived.Test.YtfconbblnmbnpahGreatDoorJa5
import Derived.Test.YtfconbblnmbnpahGreatDoorJa1
import Derived.Test.YtfconbblnmbnpahGreatDoorJa4
import Derived.Test.YtfconbblnmbnpahGreatDoorJa3
import Derived.Test.YtfconbblnmbnpahGreatDoorJa2
namespace Go.Proofs.YtfconbblnmbnpahGreatDoor
open Go.RowKit

theorem cell_at_new {w : World} {k : Nat} (hk : k = w.heap.size) (x : Value) (t : TypeId) : (w.alloc (.cells #[x] t)).cell? ⟨k, 0, none⟩ = some x := by
  subst hk
  simp
def aheadB (R V : Nat) : List (List UInt8) := [snTimeW] ++ List.replicate R snRoomW ++ List.replicate V snWireW
def strV (l : List UInt8) : Value := .string ⟨l.toArray⟩
def aheadV (R V : Nat) : List Value := (aheadB R V).map strV
theorem aheadB_len (R V : Nat) : (aheadB R V).length = 1 + R + V := by simp [aheadB]; omega
theorem aheadV_len (R V : Nat) : (aheadV R V).length = 1 + R + V := by rw [aheadV, List.length_map, aheadB_len]
theorem aheadB_at (R V i : Nat) : (aheadB R V)[i]? = kpWord R V i := by
  unfold aheadB kpWord
  by_cases h0 : i = 0
  · subst h0
    simp
  · rw [if_neg h0]
    by_cases h1 : i ≤ R
    · rw [if_pos h1, List.getElem?_append_left (by simp; omega), List.getElem?_append_right (by simp; omega), List.getElem?_replicate, if_pos (by simp; omega)]
    · rw [if_neg h1, List.getElem?_append_right (by simp; omega), List.getElem?_replicate]
      by_cases h2 : i ≤ R + V
      · rw [if_pos h2, if_pos (by simp; omega)]
      · rw [if_neg h2, if_neg (by simp; omega)]
theorem repeat_any (x : ByteArray) (n : Nat) (hn : n ≤ 12) (g : Nat) (w : World) (hg : w.cell? ⟨g, 0, none⟩ = some (.string x)) : Calls Tryz.prog 112 #[.slice (some ⟨g, 0, none⟩) 1 1, .int .i64 n] w fun e w' => ∃ k, e = .returned (.slice (some ⟨k, 0, none⟩) n n) ∧ RepB w w' k n n x := by
  by_cases h0 : n = 0
  · subst h0
    exact repeat_none x g w
  · exact repeat_some x g n (by omega) hn w hg
theorem ahead_conc (R V : Nat) (hR : R ≤ 12) (hV : V ≤ 12) (g kt k1 k2 : Nat) (W : World) (hgl : g < W.heap.size) (hk : kt < W.heap.size ∧ k1 < W.heap.size ∧ k2 < W.heap.size)
    (hc0 : W.cell? ⟨g, 0, none⟩ = some (.slice (some ⟨kt, 0, none⟩) 1 1)) (hc1 : W.cell? ⟨g, 1, none⟩ = some (.slice (some ⟨k1, 0, none⟩) R R)) (hc2 : W.cell? ⟨g, 2, none⟩ = some (.slice (some ⟨k2, 0, none⟩) V V))
    (ht : W.cell? ⟨kt, 0, none⟩ = some (strV snTimeW)) (h1 : ∀ i, i < R → W.cell? ⟨k1, i, none⟩ = some (strV snRoomW)) (h2 : ∀ i, i < V → W.cell? ⟨k2, i, none⟩ = some (strV snWireW)) :
    Calls Tryz.prog 111 #[.slice (some ⟨g, 0, none⟩) 3 3] W fun e w' => ∃ ga c, e = .returned (.slice (some ⟨ga, 0, none⟩) (1 + R + V) c) ∧ w'.ownsRow W.heap.size 9 1 (.slice (some ⟨ga, 0, none⟩) (1 + R + V) c) (1 + R + V) (aheadV R V) ∧ Below W.heap.size W w' := by
  have hfl : [[strV snTimeW], List.replicate R (strV snRoomW), List.replicate V (strV snWireW)].flatten = aheadV R V := by simp [aheadV, aheadB]
  have hrep : ∀ (n : Nat) (v x : Value), x ∈ List.replicate n v → x = v := fun n v x h => List.eq_of_mem_replicate h
  have q := concatS [.slice (some ⟨kt, 0, none⟩) 1 1, .slice (some ⟨k1, 0, none⟩) R R, .slice (some ⟨k2, 0, none⟩) V V] [[strV snTimeW], List.replicate R (strV snRoomW), List.replicate V (strV snWireW)] g 3 W rfl (Nat.le_refl _) (by rw [hfl, aheadV_len]; omega) (by rw [hfl, aheadV_len]; omega) hgl
    (fun i v hv => by
      match i, hv with
      | 0, hv => simp at hv; subst hv; exact hc0
      | 1, hv => simp at hv; subst hv; exact hc1
      | 2, hv => simp at hv; subst hv; exact hc2
      | i + 3, hv => simp at hv)
    (fun i v l hv hl => by
      match i, hv, hl with
      | 0, hv, hl =>
        simp at hv hl
        subst hv
        subst hl
        exact Or.inr ⟨kt, 0, 1, rfl, hk.1, fun j x hx => by
          match j, hx with
          | 0, hx => simp at hx; subst hx; exact ht
          | j + 1, hx => simp at hx⟩
      | 1, hv, hl =>
        simp at hv hl
        subst hv
        subst hl
        refine Or.inr ⟨k1, 0, R, by rw [List.length_replicate], hk.2.1, fun j x hx => ?_⟩
        have hj := (List.getElem?_eq_some_iff.1 hx).1
        rw [List.length_replicate] at hj
        rw [hrep _ _ _ (List.mem_of_getElem? hx), Nat.zero_add]
        exact h1 j hj
      | 2, hv, hl =>
        simp at hv hl
        subst hv
        subst hl
        refine Or.inr ⟨k2, 0, V, by rw [List.length_replicate], hk.2.2, fun j x hx => ?_⟩
        have hj := (List.getElem?_eq_some_iff.1 hx).1
        rw [List.length_replicate] at hj
        rw [hrep _ _ _ (List.mem_of_getElem? hx), Nat.zero_add]
        exact h2 j hj
      | i + 3, hv, _ => simp at hv)
    (fun l hl y hy => by
      simp only [List.mem_cons, List.not_mem_nil, or_false] at hl
      rcases hl with rfl | rfl | rfl
      · rw [List.mem_singleton] at hy; subst hy; rfl
      · rw [hrep _ _ _ hy]; rfl
      · rw [hrep _ _ _ hy]; rfl)
  rw [hfl, aheadV_len] at q
  refine q.mono ?_
  rintro e w' ⟨ao, c, rfl, own, hb⟩
  obtain ⟨ga, cc, he⟩ : ∃ ga cc, Value.slice ao (1 + R + V) c = .slice (some ⟨ga, 0, none⟩) (1 + R + V) cc := by
    rcases own.2 with ⟨h3, h4⟩ | ⟨ga, cc, cur, h3, _⟩
    · omega
    · exact ⟨ga, cc, h3⟩
  injection he with e1 _ e3
  subst e1
  subst e3
  exact ⟨ga, c, rfl, own, hb⟩
theorem ahead_call (R V : Nat) (hR : R ≤ 12) (hV : V ≤ 12) (w1 w2 W0 : World) (kt k1 k2 : Nat) (t : TypeId) (o : Obj) (ht : kt < W0.heap.size) (hc : W0.cell? ⟨kt, 0, none⟩ = some (strV snTimeW)) (r1 : RepB W0 w1 k1 R R ⟨snRoomW.toArray⟩) (r2 : RepB (w1.alloc o) w2 k2 V V ⟨snWireW.toArray⟩) :
    Calls Tryz.prog 111 #[.slice (some ⟨w2.heap.size, 0, none⟩) 3 3] (w2.alloc (.cells #[.slice (some ⟨kt, 0, none⟩) 1 1, .slice (some ⟨k1, 0, none⟩) R R, .slice (some ⟨k2, 0, none⟩) V V] t)) fun e w' => ∃ ga c, e = .returned (.slice (some ⟨ga, 0, none⟩) (1 + R + V) c) ∧ w'.ownsRow (w2.heap.size + 1) 9 1 (.slice (some ⟨ga, 0, none⟩) (1 + R + V) c) (1 + R + V) (aheadV R V) ∧ Below W0.heap.size W0 w' := by
  have hA : Below w2.heap.size w2 (w2.alloc (.cells #[.slice (some ⟨kt, 0, none⟩) 1 1, .slice (some ⟨k1, 0, none⟩) R R, .slice (some ⟨k2, 0, none⟩) V V] t)) := (Below.refl _ _).alloc (Nat.le_refl _) _
  have hs1 := r1.bel.size
  have hs2 := r2.bel.size
  have hl1 := r1.lt
  have hl2 := r2.lt
  simp only [World.size_alloc] at hs2
  have hk : ∀ k, k < w1.heap.size → (w2.alloc (.cells #[.slice (some ⟨kt, 0, none⟩) 1 1, .slice (some ⟨k1, 0, none⟩) R R, .slice (some ⟨k2, 0, none⟩) V V] t)).heap[k]? = w1.heap[k]? := fun k h => (hA.block k (by omega)).trans ((r2.bel.block k (by simp; omega)).trans (((Below.refl _ w1).alloc (Nat.le_refl _) _).block k h))
  have hc1 : ∀ k i, k < w1.heap.size → (w2.alloc (.cells #[.slice (some ⟨kt, 0, none⟩) 1 1, .slice (some ⟨k1, 0, none⟩) R R, .slice (some ⟨k2, 0, none⟩) V V] t)).cell? ⟨k, i, none⟩ = w1.cell? ⟨k, i, none⟩ := fun k i h => World.cell?_of_block (a := ⟨k, i, none⟩) (hk k h)
  have q := ahead_conc R V hR hV w2.heap.size kt k1 k2 (w2.alloc (.cells #[.slice (some ⟨kt, 0, none⟩) 1 1, .slice (some ⟨k1, 0, none⟩) R R, .slice (some ⟨k2, 0, none⟩) V V] t)) (by simp) (by simp; omega) (by simp) (by simp) (by simp)
    ((hc1 kt 0 (by omega)).trans ((r1.bel.cell (p := ⟨kt, 0, none⟩) ht).trans hc)) (fun i hi => (hc1 k1 i hl1).trans (r1.at_ i hi)) (fun i hi => (hA.cell (p := ⟨k2, i, none⟩) hl2).trans (r2.at_ i hi))
  refine q.mono ?_
  rintro e w' ⟨ga, c, rfl, own, hb⟩
  rw [World.size_alloc] at own
  refine ⟨ga, c, rfl, own, ?_⟩
  have h2 : Below W0.heap.size W0 w2 := r1.bel.trans ((((Below.refl _ w1).alloc (Nat.le_refl _) o).mono hs1).trans (r2.bel.mono (by simp; omega)))
  exact h2.trans ((hA.mono (by omega)).trans (hb.mono (by simp; omega)))
/-- What is left of the words behind so many lines. -/
def AhdV (ga c R V i : Nat) (v : Value) : Prop := ∃ A : Addr, v = .slice (some A) (1 + R + V - i) (c - i) ∧ i ≤ 1 + R + V ∧ 1 + R + V ≤ c ∧ (i < c → A = ⟨ga, i, none⟩)
theorem AhdV.at_ {W : World} {base ga c R V i : Nat} {v : Value} {wd : List UInt8} (own : W.ownsRow base 9 1 (.slice (some ⟨ga, 0, none⟩) (1 + R + V) c) (1 + R + V) (aheadV R V)) (h : AhdV ga c R V i v) (hw : kpWord R V i = some wd) : v = .slice (some ⟨ga, i, none⟩) (1 + R + V - i) (c - i) ∧ i < 1 + R + V ∧ i < c ∧ W.cell? ⟨ga, i, none⟩ = some (strV wd) := by
  obtain ⟨A, rfl, h1, h2, h3⟩ := h
  have hi : i < 1 + R + V := by
    unfold kpWord at hw
    split at hw
    · omega
    · split at hw
      · omega
      · split at hw
        · omega
        · cases hw
  refine ⟨by rw [h3 (by omega)], hi, by omega, ?_⟩
  have hc := own_cap own
  refine hc.2.2.2.2.1 i _ ?_
  unfold aheadV
  rw [List.getElem?_map, aheadB_at, hw]
  rfl
theorem AhdV.next {ga c R V i : Nat} {n m : Nat} (h : i < 1 + R + V) (hc : 1 + R + V ≤ c) (hn : n = 1 + R + V - (i + 1)) (hm : m = c - (i + 1)) : AhdV ga c R V (i + 1) (.slice (if m = 0 then some ⟨ga, i, none⟩ else some ⟨ga, i + 1, none⟩) n m) := by
  subst hn
  subst hm
  by_cases h0 : c - (i + 1) = 0
  · rw [if_pos h0]
    exact ⟨⟨ga, i, none⟩, rfl, by omega, hc, fun h1 => by omega⟩
  · rw [if_neg h0]
    exact ⟨⟨ga, i + 1, none⟩, rfl, by omega, hc, fun _ => rfl⟩
theorem tail_ge : ∀ (ns : List Int), ns.length ≤ (tail ns).length
  | [] => Nat.le_refl _
  | n :: ns => by
    have h := tail_ge ns
    have e : tail (n :: ns) = 32 :: Lib.itoa n ++ tail ns := by simp [tail]
    rw [e, List.length_append, List.length_cons, List.length_cons]
    omega
theorem read7B_len {l w : List UInt8} {ns : List Int} (h : read7B l = some (w, ns)) : ns.length ≤ l.length := by
  unfold read7B at h
  split at h
  · have h1 := (wn_back h).1
    have h2 := tail_ge ns
    have h3 : (w ++ tail ns).length ≤ l.length := by rw [h1, List.length_dropLast]; omega
    rw [List.length_append] at h3
    omega
  · cases h
end Go.Proofs.YtfconbblnmbnpahGreatDoor
namespace Go.Proofs.YtfconbblnmbnpahGreatDoor
open Go.RowKit

theorem ix0 (x y : Int) (w : World) : (Instr.index 292 (.agg #[.int .i64 x, .int .i64 y]) (.int .i64 0)).run Tryz.prog w = .ok (.int .i64 x) w := by kernel_rfl
theorem ix1 (x y : Int) (w : World) : (Instr.index 292 (.agg #[.int .i64 x, .int .i64 y]) (.int .i64 1)).run Tryz.prog w = .ok (.int .i64 y) w := by kernel_rfl

def bd (p ops : Int) : Int := if p = 0 then ops else p
def fit2 (p q a b ops : Int) : Bool := decide (0 ≤ a ∧ a < bd p ops ∧ 0 ≤ b ∧ b < bd q ops)
theorem bd_zero (ops : Int) : bd 0 ops = ops := rfl
theorem bd_not {p : Int} (h : p ≠ 0) (ops : Int) : bd p ops = p := by simp [bd, h]
theorem fit2_no1 {p q a b ops : Int} (h : a < 0 ∨ bd p ops ≤ a) : fit2 p q a b ops = false := by unfold fit2; simp only [decide_eq_false_iff_not]; omega
theorem fit2_no2 {p q a b ops : Int} (h : b < 0 ∨ bd q ops ≤ b) : fit2 p q a b ops = false := by unfold fit2; simp only [decide_eq_false_iff_not]; omega
theorem fit2_yes {p q a b ops : Int} (h1 : 0 ≤ a) (h2 : a < bd p ops) (h3 : 0 ≤ b) (h4 : b < bd q ops) : fit2 p q a b ops = true := by unfold fit2; simp only [decide_eq_true_eq]; omega

set_option maxRecDepth 100000 in
set_option maxHeartbeats 4000000 in
theorem fits_at (n : Nat) (a b ops p q : Int) (h1 : 1 ≤ n) (h2 : n ≤ 11) (w : World) (c1 : w.cell? ⟨2, n * 3 + 1, none⟩ = some (.int .i64 p)) (c2 : w.cell? ⟨2, n * 3 + 2, none⟩ = some (.int .i64 q)) :
    Calls Tryz.prog 169 #[.agg #[.int .i64 n, .int .i64 a, .int .i64 b], .int .i64 ops] w fun e w' => e = .returned (.bool (fit2 p q a b ops)) ∧ Below w.heap.size w w' := by
  have hlt := lt_of_cell c1
  have i0 := ix0 a b
  have i1 := ix1 a b
  go_enter Tryz.func169, Tryz.ntmps169
  go_wp2
  clear c1 c2
  go_loop [27] (fun i => i = .int .i64 0 ∨ (i = .int .i64 1 ∧ 0 ≤ a ∧ a < bd p ops) ∨ (i = .int .i64 2 ∧ 0 ≤ a ∧ a < bd p ops ∧ 0 ≤ b ∧ b < bd q ops)) (fun i => 2 - (intOf i).toNat)
  case atStart => exact Or.inl rfl
  case round =>
    rcases hrel with rfl | ⟨rfl, ha0, ha1⟩ | ⟨rfl, ha0, ha1, hb0, hb1⟩
    · by_cases hp : p = 0
      · subst hp
        by_cases hA : 0 ≤ a ∧ a < ops
        · obtain ⟨hA1, hA2⟩ := hA
          go_wp2
          go_round
          case rel => exact Or.inr (Or.inl ⟨rfl, hA1, by rw [bd_zero]; exact hA2⟩)
          case measure => simp [intOf]
        · go_wp2
          all_goals first | (go_ret; exact ⟨ret_bool (fit2_no1 (by rw [bd_zero]; omega)).symm, ((Below.refl _ _).alloc (Nat.le_refl _) _).alloc (by simp) _⟩) | (exfalso; omega)
      · have hp' : (p == 0) = false := by simpa using hp
        by_cases hA : 0 ≤ a ∧ a < p
        · obtain ⟨hA1, hA2⟩ := hA
          go_wp2
          go_round
          case rel => exact Or.inr (Or.inl ⟨rfl, hA1, by rw [bd_not hp]; exact hA2⟩)
          case measure => simp [intOf]
        · go_wp2
          all_goals first | (go_ret; exact ⟨ret_bool (fit2_no1 (by rw [bd_not hp]; omega)).symm, ((Below.refl _ _).alloc (Nat.le_refl _) _).alloc (by simp) _⟩) | (exfalso; omega)
    · have HA : Hid (0 ≤ a ∧ a < bd p ops) := ⟨ha0, ha1⟩
      clear ha0 ha1
      by_cases hq : q = 0
      · subst hq
        by_cases hB : 0 ≤ b ∧ b < ops
        · obtain ⟨hB1, hB2⟩ := hB
          go_wp2
          go_round
          case rel => exact Or.inr (Or.inr ⟨rfl, HA.out.1, HA.out.2, hB1, by rw [bd_zero]; exact hB2⟩)
          case measure => simp [intOf]
        · go_wp2
          all_goals first | (go_ret; exact ⟨ret_bool (fit2_no2 (by rw [bd_zero]; omega)).symm, ((Below.refl _ _).alloc (Nat.le_refl _) _).alloc (by simp) _⟩) | (exfalso; omega)
      · have hq' : (q == 0) = false := by simpa using hq
        by_cases hB : 0 ≤ b ∧ b < q
        · obtain ⟨hB1, hB2⟩ := hB
          go_wp2
          go_round
          case rel => exact Or.inr (Or.inr ⟨rfl, HA.out.1, HA.out.2, hB1, by rw [bd_not hq]; exact hB2⟩)
          case measure => simp [intOf]
        · go_wp2
          all_goals first | (go_ret; exact ⟨ret_bool (fit2_no2 (by rw [bd_not hq]; omega)).symm, ((Below.refl _ _).alloc (Nat.le_refl _) _).alloc (by simp) _⟩) | (exfalso; omega)
    · have HF := fit2_yes ha0 ha1 hb0 hb1
      clear ha0 ha1 hb0 hb1
      have HF' : Hid (fit2 p q a b ops = true) := HF
      clear HF
      go_wp2
      go_ret
      exact ⟨ret_bool HF'.out.symm, ((Below.refl _ _).alloc (Nat.le_refl _) _).alloc (by simp) _⟩

theorem forms_at {w : World} (hf : Forms w) (n : Nat) (h1 : 1 ≤ n) (h2 : n ≤ 11) : w.cell? ⟨2, n * 3 + 1, none⟩ = some (.int .i64 (pA n)) ∧ w.cell? ⟨2, n * 3 + 2, none⟩ = some (.int .i64 (pB n)) := by
  have h : n = 1 ∨ n = 2 ∨ n = 3 ∨ n = 4 ∨ n = 5 ∨ n = 6 ∨ n = 7 ∨ n = 8 ∨ n = 9 ∨ n = 10 ∨ n = 11 := by omega
  rcases h with rfl | rfl | rfl | rfl | rfl | rfl | rfl | rfl | rfl | rfl | rfl <;> exact ⟨hf _ _ rfl, hf _ _ rfl⟩
theorem fit2_fitsB (n : Nat) (a b ops : Int) (h1 : 1 ≤ n) (h2 : n ≤ 11) : fit2 (pA n) (pB n) a b ops = fitsB n a b ops := by
  have h : n = 1 ∨ n = 2 ∨ n = 3 ∨ n = 4 ∨ n = 5 ∨ n = 6 ∨ n = 7 ∨ n = 8 ∨ n = 9 ∨ n = 10 ∨ n = 11 := by omega
  rcases h with rfl | rfl | rfl | rfl | rfl | rfl | rfl | rfl | rfl | rfl | rfl <;> simp [fit2, fitsB, pA, pB, bA, bB, bd]

set_option maxRecDepth 100000 in
set_option maxHeartbeats 1000000 in
theorem fits_out (n a b ops : Int) (hn : n < 1 ∨ 11 < n) (w : World) :
    Calls Tryz.prog 169 #[.agg #[.int .i64 n, .int .i64 a, .int .i64 b], .int .i64 ops] w fun e w' => e = .returned (.bool (fitsB n a b ops)) ∧ Below w.heap.size w w' := by
  rcases hn with h | h
  · go_enter Tryz.func169, Tryz.ntmps169
    go_wp2
    go_ret
    exact ⟨ret_bool (fitsB_lo h).symm, (Below.refl _ _).alloc (Nat.le_refl _) _⟩
  · have h' : ¬ n < 1 := by omega
    go_enter Tryz.func169, Tryz.ntmps169
    go_wp2
    go_ret
    exact ⟨ret_bool (fitsB_hi h).symm, (Below.refl _ _).alloc (Nat.le_refl _) _⟩

theorem fits_any (n a b ops : Int) (w : World) (hf : Forms w) :
    Calls Tryz.prog 169 #[.agg #[.int .i64 n, .int .i64 a, .int .i64 b], .int .i64 ops] w fun e w' => e = .returned (.bool (fitsB n a b ops)) ∧ Below w.heap.size w w' := by
  by_cases h : 1 ≤ n ∧ n ≤ 11
  · obtain ⟨m, rfl⟩ : ∃ m : Nat, n = m := ⟨n.toNat, by omega⟩
    have hc := forms_at hf m (by omega) (by omega)
    rw [← fit2_fitsB m a b ops (by omega) (by omega)]
    exact fits_at m a b ops _ _ (by omega) (by omega) w hc.1 hc.2
  · exact fits_out n a b ops (by omega) w
end Go.Proofs.YtfconbblnmbnpahGreatDoor
namespace Go.Proofs.YtfconbblnmbnpahGreatDoor
open Go.RowKit

set_option maxRecDepth 100000 in
set_option maxHeartbeats 1000000 in
theorem wrong_any (o : O3) (lb n cap : Nat) (ao : Option Addr) (w : World) (hf : Forms w) (hl : w.cell? ⟨lb, 0, none⟩ = some (.slice ao n cap)) :
    Calls Tryz.prog 168 #[.agg #[.int .i64 o.1, .int .i64 o.2.1, .int .i64 o.2.2], .pointer (some ⟨lb, 0, none⟩)] w fun e w' => e = .returned (.bool (!ok3 n o)) ∧ Below w.heap.size w w' := by
  have hlt := lt_of_cell hl
  have hlt' : lb ≠ w.heap.size := by omega
  go_enter Tryz.func168, Tryz.ntmps168
  go_wp2_with (go_at_call 169; refine (fits_any o.1 o.2.1 o.2.2 n _ (hf.alloc _)).mono ?_)
  rintro e w1 ⟨rfl, b1⟩
  go_wp2
  go_ret
  exact ⟨rfl, ((Below.refl _ _).alloc (Nat.le_refl _) _).trans (b1.mono (by simp))⟩

/-- The place of the first op that does not fit; -1, if none. -/
def fidx (n : Nat) (l : List O3) : Int := match l.findIdx? (fun o => !ok3 n o) with | some i => i | none => -1
theorem fidx_some {n : Nat} {l : List O3} {i : Nat} (h : l.findIdx? (fun o => !ok3 n o) = some i) : fidx n l = i := by unfold fidx; rw [h]
theorem fidx_none {n : Nat} {l : List O3} (h : l.findIdx? (fun o => !ok3 n o) = none) : fidx n l = -1 := by unfold fidx; rw [h]

set_option maxRecDepth 100000 in
set_option maxHeartbeats 2000000 in
theorem indexFunc_some (l : List O3) (b off cap lb n' cap' : Nat) (ao : Option Addr) (w : World) (hf : Forms w) (hl : w.cell? ⟨lb, 0, none⟩ = some (.slice ao n' cap')) (hlen : l.length ≤ 20) (hlt : b < w.heap.size)
    (hc : ∀ (i : Nat) o, l[i]? = some o → w.cell? ⟨b, off + i * 3, none⟩ = some (.int .i64 o.1) ∧ w.cell? ⟨b, off + i * 3 + 1, none⟩ = some (.int .i64 o.2.1) ∧ w.cell? ⟨b, off + i * 3 + 2, none⟩ = some (.int .i64 o.2.2)) :
    Calls Tryz.prog 170 #[.slice (some ⟨b, off, none⟩) l.length cap, .func (.func 168) #[] #[.pointer (some ⟨lb, 0, none⟩)]] w fun e w' =>
      e = .returned (.int .i64 (fidx n' l)) ∧ Below w.heap.size w w' := by
  have hll := lt_of_cell hl
  go_enter Tryz.func170, Tryz.ntmps170
  go_wp2
  go_loopw [8] (fun i wr => ∃ k : Nat, k ≤ l.length ∧ i = .int .i64 k ∧ (∀ (j : Nat) x, j < k → l[j]? = some x → (!ok3 n' x) = false) ∧ Below w.heap.size w wr) (fun i _ => l.length - (intOf i).toNat)
  case atStart => exact ⟨0, Nat.zero_le _, rfl, fun j x hj => by omega, Below.refl _ _⟩
  case round =>
    obtain ⟨k, hk, rfl, hall, hb⟩ := hrel
    have hf' : Forms wr := hf.all hb
    have hl' : wr.cell? ⟨lb, 0, none⟩ = some (.slice ao n' cap') := (hb.cell (p := ⟨lb, 0, none⟩) hll).trans hl
    have Hall : Hid (∀ (j : Nat) x, j < k → l[j]? = some x → (!ok3 n' x) = false) := hall
    clear hall
    by_cases hkl : k < l.length
    · obtain ⟨o, ho⟩ : ∃ o, l[k]? = some o := ⟨l[k], List.getElem?_eq_getElem hkl⟩
      have HO : Hid (l[k]? = some o) := ho
      obtain ⟨c0, c1, c2⟩ := hc k o ho
      clear ho
      have d0 : wr.cell? ⟨b, off + k * 3, none⟩ = some (.int .i64 o.1) := (hb.cell (p := ⟨b, _, none⟩) hlt).trans c0
      have d1 : wr.cell? ⟨b, off + k * 3 + 1, none⟩ = some (.int .i64 o.2.1) := (hb.cell (p := ⟨b, _, none⟩) hlt).trans c1
      have d2 : wr.cell? ⟨b, off + k * 3 + 2, none⟩ = some (.int .i64 o.2.2) := (hb.cell (p := ⟨b, _, none⟩) hlt).trans c2
      clear c0 c1 c2
      go_wp2_with (go_at_call 168; refine (wrong_any o lb n' cap' ao _ hf' hl').mono ?_)
      rintro e w1 ⟨rfl, b1⟩
      have hb1 := hb.trans (b1.mono hb.size)
      by_cases hok : ok3 n' o = true
      · have hok' : (!ok3 n' o) = false := by simp [hok]
        go_wp2
        go_roundw
        case rel =>
          refine ⟨k + 1, by omega, by go_num, fun j x hj hx => ?_, hb1⟩
          by_cases hjk : j < k
          · exact Hall.out j x hjk hx
          · obtain rfl : j = k := by omega
            rw [HO.out] at hx
            obtain rfl := Option.some.inj hx
            exact hok'
        case measure => simp [intOf]; omega
      · have hok' : (!ok3 n' o) = true := by simp [hok]
        have hfi := findIdx_hit (p := fun o => !ok3 n' o) Hall.out HO.out hok'
        have HF : Hid (l.findIdx? (fun o => !ok3 n' o) = some k) := hfi
        clear hfi
        go_wp2
        go_ret
        exact ⟨ret_int (fidx_some HF.out).symm, hb1⟩
    · have HF : Hid (l.findIdx? (fun o => !ok3 n' o) = none) := findIdx_miss (fun i x hi hx => Hall.out i x (by omega) hx)
      clear hf' hl'
      go_wp2
      go_ret
      exact ⟨ret_int (fidx_none HF.out).symm, hb⟩

set_option maxRecDepth 100000 in
set_option maxHeartbeats 1000000 in
theorem check_nil (ao : Option Addr) (cap : Nat) (w : World) :
    Calls Tryz.prog 136 #[.slice ao 0 cap] w fun e w' => e = .returned (.tuple #[.int .i64 0, errV 5]) ∧ Below w.heap.size w w' := by
  go_enter Tryz.func136, Tryz.ntmps136
  go_wp2
  go_ret2
  exact ⟨rfl, (Below.refl _ _).alloc (Nat.le_refl _) _⟩

set_option maxRecDepth 100000 in
set_option maxHeartbeats 1000000 in
theorem check_long (ao : Option Addr) (n cap : Nat) (w : World) (hn : 20 < n) :
    Calls Tryz.prog 136 #[.slice ao n cap] w fun e w' => e = .returned (.tuple #[.int .i64 0, errV 4]) ∧ Below w.heap.size w w' := by
  go_enter Tryz.func136, Tryz.ntmps136
  go_wp2
  go_ret2
  exact ⟨rfl, (Below.refl _ _).alloc (Nat.le_refl _) _⟩

set_option maxRecDepth 100000 in
set_option maxHeartbeats 1000000 in
theorem check_mid (l : List O3) (b off cap : Nat) (w : World) (hf : Forms w) (h0 : l.length ≠ 0) (h1 : ¬ 20 < l.length) (hlt : b < w.heap.size)
    (hc : ∀ (i : Nat) o, l[i]? = some o → w.cell? ⟨b, off + i * 3, none⟩ = some (.int .i64 o.1) ∧ w.cell? ⟨b, off + i * 3 + 1, none⟩ = some (.int .i64 o.2.1) ∧ w.cell? ⟨b, off + i * 3 + 2, none⟩ = some (.int .i64 o.2.2)) :
    Calls Tryz.prog 136 #[.slice (some ⟨b, off, none⟩) l.length cap] w fun e w' => e = .returned (.tuple #[.int .i64 (chk l).1, errV (chk l).2]) ∧ Below w.heap.size w w' := by
  have hb0 : Below w.heap.size w (w.alloc (.cells #[.slice (some ⟨b, off, none⟩) l.length cap] 78)) := (Below.refl _ _).alloc (Nat.le_refl _) _
  have hc' : ∀ (i : Nat) o, l[i]? = some o → (w.alloc (.cells #[.slice (some ⟨b, off, none⟩) l.length cap] 78)).cell? ⟨b, off + i * 3, none⟩ = some (.int .i64 o.1) ∧ (w.alloc (.cells #[.slice (some ⟨b, off, none⟩) l.length cap] 78)).cell? ⟨b, off + i * 3 + 1, none⟩ = some (.int .i64 o.2.1) ∧ (w.alloc (.cells #[.slice (some ⟨b, off, none⟩) l.length cap] 78)).cell? ⟨b, off + i * 3 + 2, none⟩ = some (.int .i64 o.2.2) := fun i o ho => by
    obtain ⟨a0, a1, a2⟩ := hc i o ho
    exact ⟨(hb0.cell (p := ⟨b, _, none⟩) hlt).trans a0, (hb0.cell (p := ⟨b, _, none⟩) hlt).trans a1, (hb0.cell (p := ⟨b, _, none⟩) hlt).trans a2⟩
  have hI := indexFunc_some l b off cap w.heap.size l.length cap (some ⟨b, off, none⟩) _ (hf.all hb0) (by simp) (by omega) (Nat.lt_of_lt_of_le hlt hb0.size) hc'
  clear hc hc' hb0
  have h0' : ¬ ((l.length : Int) = 0) := by omega
  cases hfi : l.findIdx? (fun o => !ok3 l.length o) with
  | some i =>
    have HC : Hid (chk l = ((i : Int), 1)) := chk_bad h0 h1 hfi
    rw [fidx_some hfi] at hI
    clear hfi
    go_enter Tryz.func136, Tryz.ntmps136
    go_wp2_with (go_at_call 170; refine hI.mono ?_)
    rintro e w1 ⟨rfl, b1⟩
    go_wp2
    go_ret2
    rw [HC.out]
    exact ⟨rfl, ((Below.refl _ _).alloc (Nat.le_refl _) _).trans (b1.mono (by simp))⟩
  | none =>
    have HC : Hid (chk l = (0, 0)) := chk_good h0 h1 hfi
    rw [fidx_none hfi] at hI
    clear hfi
    go_enter Tryz.func136, Tryz.ntmps136
    go_wp2_with (go_at_call 170; refine hI.mono ?_)
    rintro e w1 ⟨rfl, b1⟩
    go_wp2
    go_ret2
    rw [HC.out]
    exact ⟨rfl, ((Below.refl _ _).alloc (Nat.le_refl _) _).trans (b1.mono (by simp))⟩

theorem check_any (v : Value) (l : List O3) (w : World) (hf : Forms w) (h : Ops w v l) :
    Calls Tryz.prog 136 #[v] w fun e w' => e = .returned (.tuple #[.int .i64 (chk l).1, errV (chk l).2]) ∧ Below w.heap.size w w' := by
  rcases h with ⟨rfl, ao, cap, rfl⟩ | ⟨b, off, cap, rfl, hlt, hc⟩
  · rw [chk_nil]
    exact check_nil ao cap w
  · by_cases h0 : l.length = 0
    · obtain rfl := List.eq_nil_of_length_eq_zero h0
      rw [chk_nil]
      exact check_nil _ cap w
    · by_cases h1 : 20 < l.length
      · rw [chk_long h1]
        exact check_long _ _ cap w h1
      · exact check_mid l b off cap w hf h0 h1 hlt hc
end Go.Proofs.YtfconbblnmbnpahGreatDoor
namespace Go.Proofs.YtfconbblnmbnpahGreatDoor
open Go.RowKit

/-- A state as a value. -/
def stV (s : St) : Value := .agg #[.int .i64 s.p, .int .i64 (s.c 0), .int .i64 (s.c 1), .int .i64 (s.c 2), .int .i64 (s.c 3), .int .i64 (s.c 4), .int .i64 (s.c 5), .bool s.f]

def outB (n : Int) : Bool := decide (n < 0 ∨ 999 < n)
set_option maxRecDepth 100000 in
set_option maxHeartbeats 1000000 in
theorem outside_any (n : Int) (w : World) : Calls Tryz.prog 141 #[.int .i64 n] w fun e w' => e = .returned (.bool (outB n)) ∧ Below w.heap.size w w' := by
  by_cases h : n < 0
  · go_enter Tryz.func141, Tryz.ntmps141
    go_wp2
    go_ret
    exact ⟨ret_bool (by simp [outB, h]), Below.refl _ _⟩
  · have h' : decide (n < 0) = false := by simpa using h
    by_cases h2 : 1000 ≤ n
    · go_enter Tryz.func141, Tryz.ntmps141
      go_wp2
      go_ret
      exact ⟨ret_bool (by simp [outB]; omega), Below.refl _ _⟩
    · go_enter Tryz.func141, Tryz.ntmps141
      go_wp2
      go_ret
      exact ⟨ret_bool (by simp [outB]; omega), Below.refl _ _⟩

set_option maxRecDepth 100000 in
set_option maxHeartbeats 2000000 in
theorem indexOut (c : Nat → Int) (b off cap : Nat) (w : World) (hlt : b < w.heap.size) (hc : ∀ i : Nat, i < 6 → w.cell? ⟨b, off + i, none⟩ = some (.int .i64 (c i))) :
    Calls Tryz.prog 92 #[.slice (some ⟨b, off, none⟩) 6 cap, .func (.func 141) #[] #[]] w fun e w' =>
      (∃ r : Int, e = .returned (.int .i64 r) ∧ decide (0 ≤ r) = !cellsOk c) ∧ Below w.heap.size w w' := by
  go_enter Tryz.func92, Tryz.ntmps92
  go_wp2
  go_loopw [8] (fun i wr => ∃ k : Nat, k ≤ 6 ∧ i = .int .i64 k ∧ (∀ j : Nat, j < k → outB (c j) = false) ∧ Below w.heap.size w wr) (fun i _ => 6 - (intOf i).toNat)
  case atStart => exact ⟨0, Nat.zero_le _, rfl, fun j hj => by omega, Below.refl _ _⟩
  case round =>
    obtain ⟨k, hk, rfl, hall, hb⟩ := hrel
    have Hall : Hid (∀ j : Nat, j < k → outB (c j) = false) := hall
    clear hall
    by_cases hkl : k < 6
    · have d0 : wr.cell? ⟨b, off + k, none⟩ = some (.int .i64 (c k)) := (hb.cell (p := ⟨b, _, none⟩) hlt).trans (hc k hkl)
      go_wp2_with (go_at_call 141; refine (outside_any (c k) _).mono ?_)
      rintro e w1 ⟨rfl, b1⟩
      have hb1 := hb.trans (b1.mono hb.size)
      by_cases hok : outB (c k) = false
      · go_wp2
        go_roundw
        case rel =>
          refine ⟨k + 1, by omega, by go_num, fun j hj => ?_, hb1⟩
          by_cases hjk : j < k
          · exact Hall.out j hjk
          · obtain rfl : j = k := by omega
            exact hok
        case measure => simp [intOf]; omega
      · have hok' : outB (c k) = true := by simpa using hok
        have HF : Hid (cellsOk c = false) := by
          show _ = _
          apply cellsOk_no
          intro h
          have := h k hkl
          simp [outB] at hok'
          omega
        go_wp2
        go_ret
        exact ⟨⟨_, rfl, by rw [HF.out]; simp⟩, hb1⟩
    · have HF : Hid (cellsOk c = true) := by
        show _ = _
        rw [cellsOk_iff]
        intro i hi
        have := Hall.out i (by omega)
        simp [outB] at this
        omega
      clear hc
      go_wp2
      go_ret
      exact ⟨⟨_, rfl, by rw [HF.out]; simp⟩, hb⟩

set_option maxRecDepth 100000 in
set_option maxHeartbeats 2000000 in
theorem containsOut (c : Nat → Int) (b off cap : Nat) (w : World) (hlt : b < w.heap.size) (hc : ∀ i : Nat, i < 6 → w.cell? ⟨b, off + i, none⟩ = some (.int .i64 (c i))) :
    Calls Tryz.prog 51 #[.slice (some ⟨b, off, none⟩) 6 cap, .func (.func 141) #[] #[]] w fun e w' =>
      e = .returned (.bool (!cellsOk c)) ∧ Below w.heap.size w w' := by
  have h := indexOut c b off cap w hlt hc
  clear hc
  go_enter Tryz.func51, Tryz.ntmps51
  go_wp2_with (go_at_call 92; refine h.mono ?_; rintro e w1 ⟨⟨r, rfl, hr⟩, bb⟩; clear h; have HR : Hid (decide (0 ≤ r) = !cellsOk c) := hr; clear hr)
  go_ret
  exact ⟨ret_bool HR.out, bb⟩
end Go.Proofs.YtfconbblnmbnpahGreatDoor
namespace Go.Proofs.YtfconbblnmbnpahGreatDoor
open Go.RowKit

set_option maxRecDepth 100000 in
set_option maxHeartbeats 1000000 in
theorem sent_no (n a b : Int) (c : Nat → Int) (w : World) (h : n ≠ 8) :
    Calls Tryz.prog 144 #[.agg #[.int .i64 n, .int .i64 a, .int .i64 b], .agg #[.int .i64 (c 0), .int .i64 (c 1), .int .i64 (c 2), .int .i64 (c 3), .int .i64 (c 4), .int .i64 (c 5)]] w fun e w' => e = .returned (.int .i64 (-1)) ∧ Below w.heap.size w w' := by
  have h' : (n == 8) = false := by simpa using h
  go_enter Tryz.func144, Tryz.ntmps144
  go_wp2
  go_ret
  exact ⟨rfl, ((Below.refl _ _).alloc (Nat.le_refl _) _).alloc (by simp) _⟩
set_option maxRecDepth 100000 in
set_option maxHeartbeats 1000000 in
theorem sent_yes (a : Nat) (b : Int) (c : Nat → Int) (w : World) (ha : a ≤ 5) :
    Calls Tryz.prog 144 #[.agg #[.int .i64 8, .int .i64 a, .int .i64 b], .agg #[.int .i64 (c 0), .int .i64 (c 1), .int .i64 (c 2), .int .i64 (c 3), .int .i64 (c 4), .int .i64 (c 5)]] w fun e w' => e = .returned (.int .i64 (c a)) ∧ Below w.heap.size w w' := by
  have h : a = 0 ∨ a = 1 ∨ a = 2 ∨ a = 3 ∨ a = 4 ∨ a = 5 := by omega
  rcases h with rfl | rfl | rfl | rfl | rfl | rfl
  all_goals
    go_enter Tryz.func144, Tryz.ntmps144
    go_wp2
    go_ret
    exact ⟨rfl, ((Below.refl _ _).alloc (Nat.le_refl _) _).alloc (by simp) _⟩
end Go.Proofs.YtfconbblnmbnpahGreatDoor
namespace Go.Proofs.YtfconbblnmbnpahGreatDoor
open Go.RowKit

set_option maxRecDepth 100000 in
set_option maxHeartbeats 1000000 in
theorem new_any (w : World) : Calls Tryz.prog 60 #[] w fun e w' => e = .returned (stV ⟨0, fun _ => 0, false⟩) ∧ Below w.heap.size w w' := by
  go_enter Tryz.func60, Tryz.ntmps60
  go_wp2
  refine bodyPost_ret (v := stV ⟨0, fun _ => 0, false⟩) ?_ rfl ⟨rfl, ?_⟩
  · simp [results, Tryz.results60, go_sem, stV]
  · repeat' first | exact Below.refl _ _ | refine Below.drew ?_ | refine Below.alloc ?_ (by simp <;> omega) _ | refine Below.setCell ?_ (by simp <;> omega) _
end Go.Proofs.YtfconbblnmbnpahGreatDoor
