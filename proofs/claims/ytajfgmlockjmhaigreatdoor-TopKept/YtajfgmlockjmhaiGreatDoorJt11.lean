/-
  SnMul, SnRep, SnRead0: joined into one text.
-/
import Derived.Test.YtajfgmlockjmhaiGreatDoorJt1
import Derived.RangeFuncNested
import Derived.Laws.IdiomCopy
import Derived.Laws.MakeOwn
import Derived.Deep.CutRange
import Derived.BigQuiet
import Derived.Test.YtajfgmlockjmhaiGreatDoorJt4
import Derived.Test.YtajfgmlockjmhaiGreatDoorJt7
import Derived.Test.YtajfgmlockjmhaiGreatDoorJt3
namespace Go.Proofs.YtajfgmlockjmhaiGreatDoor
open Go.RowKit

set_option maxRecDepth 100000 in
set_option maxHeartbeats 4000000 in
theorem mul64_few (n : Nat) (hn : n ≤ 12) (w : World) : Calls Tryz.prog 147 #[.int .u64 1, .int .u64 n] w fun e w' => e = .returned (.tuple #[.int .u64 0, .int .u64 n]) ∧ w' = w := by
  have h : n = 0 ∨ n = 1 ∨ n = 2 ∨ n = 3 ∨ n = 4 ∨ n = 5 ∨ n = 6 ∨ n = 7 ∨ n = 8 ∨ n = 9 ∨ n = 10 ∨ n = 11 ∨ n = 12 := by omega
  clear hn
  rcases h with rfl | rfl | rfl | rfl | rfl | rfl | rfl | rfl | rfl | rfl | rfl | rfl | rfl <;>
  · go_enter Tryz.func147, Tryz.ntmps147
    go_wp2
    go_ret2
    exact ⟨rfl, rfl⟩
set_option maxRecDepth 100000 in
set_option maxHeartbeats 4000000 in
theorem mul_few (n : Nat) (hn : n ≤ 12) (w : World) : Calls Tryz.prog 108 #[.int .u64 1, .int .u64 n] w fun e w' => e = .returned (.tuple #[.int .u64 0, .int .u64 n]) ∧ w' = w := by
  have q := mul64_few n hn w
  clear hn
  go_enter Tryz.func108, Tryz.ntmps108
  go_wp2_with (go_at_call 147; refine q.mono ?_; rintro e w1 ⟨rfl, hw1⟩; subst w1; clear q)
  go_ret2
  exact ⟨rfl, rfl⟩
end Go.Proofs.YtajfgmlockjmhaiGreatDoor
namespace Go.Proofs.YtajfgmlockjmhaiGreatDoor
open Go.RowKit

/-- The first so many of the cells of a block are a word. -/
structure RepB (w0 W : World) (k n j : Nat) (x : ByteArray) : Prop where
  is : ∀ i, i < n → (W.cell? ⟨k, i, none⟩).isSome = true
  free : ∀ i, W.frozen? ⟨k, i, none⟩ = false
  at_ : ∀ i, i < j → W.cell? ⟨k, i, none⟩ = some (.string x)
  ge : w0.heap.size ≤ k
  lt : k < W.heap.size
  bel : Below w0.heap.size w0 W
theorem RepB.more {w0 W : World} {k n j : Nat} {x : ByteArray} (h : RepB w0 W k n j x) (m : Nat) (hm : j + m ≤ n) : RepB w0 (W.setCells k j (List.replicate m (.string x))) k n (j + m) x := by
  have hin := World.cell?_setCells_in k (List.replicate m (.string x)) j W (fun i hi => h.is _ (by simp at hi; omega))
  have hsz : (W.setCells k j (List.replicate m (.string x))).heap.size = W.heap.size := by
    have : ∀ (vs : List Value) (o : Nat) (V : World), (V.setCells k o vs).heap.size = V.heap.size := by
      intro vs
      induction vs with
      | nil => intro o V; rfl
      | cons v r ih => intro o V; rw [World.setCells, ih]; simp
    exact this _ _ _
  have hbl : ∀ (vs : List Value) (o : Nat) (V : World), Below w0.heap.size w0 V → Below w0.heap.size w0 (V.setCells k o vs) := by
    intro vs
    induction vs with
    | nil => intro o V hV; exact hV
    | cons v r ih => intro o V hV; exact ih _ _ (hV.setCell (p := ⟨k, o, none⟩) h.ge v)
  refine ⟨fun i hi => ?_, fun i => by rw [World.frozen?_setCells]; exact h.free i, fun i hi => ?_, h.ge, by rw [hsz]; exact h.lt, hbl _ _ _ h.bel⟩
  · by_cases hi2 : j ≤ i ∧ i < j + m
    · have := hin (i - j) (by simp; omega)
      rw [show j + (i - j) = i by omega] at this
      rw [this]
      rfl
    · rw [World.cell?_setCells_out k _ _ _ _ (fun _ _ => by show i < j ∨ j + _ ≤ i; simp; omega)]
      exact h.is i hi
  · by_cases hi2 : i < j
    · rw [World.cell?_setCells_out k _ _ _ _ (fun _ _ => Or.inl hi2)]
      exact h.at_ i hi2
    · have := hin (i - j) (by simp; omega)
      rw [show j + (i - j) = i by omega] at this
      rw [this]
      simp
theorem RepB.drew {w0 W : World} {k n j : Nat} {x : ByteArray} (h : RepB w0 W k n j x) : RepB w0 W.drew k n j x := ⟨h.is, h.free, h.at_, h.ge, h.lt, h.bel.drew⟩
theorem made_str (n : Nat) (hn : n ≤ 12) (W : World) : (Instr.makeSlice 45 (.int .i64 n) (.int .i64 n)).run Tryz.prog W = .ok (.slice (some ⟨W.heap.size, 0, none⟩) n n) (W.alloc (.cells (madeCells #[.string ⟨#[]⟩] n) 9)) := by
  obtain ⟨i, hi, hz1, hz2, hz3⟩ := info3 (show (Tryz.prog.info? 9).map (fun i => (i.zero, i.size, i.bytes)) = some (some (.string ⟨#[]⟩), 1, 16) by kernel_rfl)
  have := run_make (P := Tryz.prog) W 45 9 i _ (by kernel_rfl) hi hz1 .i64 .i64 n n (by omega) (Int.le_refl _) (by rw [hz3]; omega) (by omega)
  rw [hz2] at this
  simpa [Value.cells] using this
theorem rep_new (w : World) (n : Nat) (x : ByteArray) : RepB w (w.alloc (.cells (madeCells #[.string ⟨#[]⟩] n) 9)) w.heap.size n 0 x := by
  have hh : (w.alloc (.cells (madeCells #[.string ⟨#[]⟩] n) 9)).heap[w.heap.size]? = some (.cells (madeCells #[.string ⟨#[]⟩] n) 9 (0, 0)) := World.alloc_heap_new _ _
  refine ⟨fun i hi => ?_, fun i => ?_, fun i hi => by omega, Nat.le_refl _, by simp, (Below.refl _ _).alloc (Nat.le_refl _) _⟩
  · unfold World.cell?
    simp only [hh]
    have : i < (madeCells #[Value.string ⟨#[]⟩] n).size := by rw [size_madeCells]; exact hi
    simp [this]
  · unfold World.frozen?
    simp only [hh]
    simp
theorem copy_rep {w0 W : World} {k n j : Nat} {x : ByteArray} (h : RepB w0 W k n j x) (a : Addr) (sl sc dc m : Nat) (hm : m = min sl (n - j)) (hs : ∀ i, i < m → W.cell? (a.add i) = some (.string x)) (ty : TypeId) :
    (Builtin.copy_ #[45, 45] ty #[.slice (some ⟨k, j, none⟩) (n - j) dc, .slice (some a) sl sc]).run Tryz.prog W = .ok (.int .i64 m) (W.setCells k j (List.replicate m (.string x))) := by
  have := Go.run_copy_cells (P := Tryz.prog) W 45 45 ty 9 k j (n - j) dc a sl sc (List.replicate m (.string x)) (by kernel_rfl) (by kernel_rfl) (by rw [List.length_replicate, hm]) (fun i v hv => by
    rw [List.getElem?_replicate] at hv
    split at hv
    · rename_i hi
      obtain rfl := Option.some.inj hv
      exact hs i hi
    · cases hv) (fun i hi => h.is _ (by rw [List.length_replicate] at hi; omega)) (fun i _ => h.free _) (fun v hv => by rw [List.eq_of_mem_replicate hv]; rfl)
  rw [List.length_replicate] at this
  exact this
set_option maxRecDepth 100000 in
set_option maxHeartbeats 4000000 in
theorem repeat_none (x : ByteArray) (g : Nat) (w : World) : Calls Tryz.prog 73 #[.slice (some ⟨g, 0, none⟩) 1 1, .int .i64 0] w fun e w' => ∃ k, e = .returned (.slice (some ⟨k, 0, none⟩) 0 0) ∧ RepB w w' k 0 0 x := by
  have hmk : ∀ W : World, (Instr.makeSlice 45 (.int .i64 0) (.int .i64 0)).run Tryz.prog W = .ok (.slice (some ⟨W.heap.size, 0, none⟩) 0 0) (W.alloc (.cells (madeCells #[.string ⟨#[]⟩] 0) 9)) := fun W => made_str 0 (by omega) W
  have hn := rep_new w 0 x
  have HN : Hid (RepB w (w.alloc (.cells (madeCells #[.string ⟨#[]⟩] 0) 9)) w.heap.size 0 0 x) := hn
  have q : ∀ w, Calls Tryz.prog 108 #[.int .u64 1, .int .u64 0] w fun e w' => e = .returned (.tuple #[.int .u64 0, .int .u64 0]) ∧ w' = w := fun w => mul_few 0 (by omega) w
  have hcp : ∀ (ty : TypeId) (W : World), (Builtin.copy_ #[45, 45] ty #[.slice (some ⟨w.heap.size, 0, none⟩) 0 0, .slice (some ⟨g, 0, none⟩) 1 1]).run Tryz.prog W = .ok (.int .i64 0) W := fun ty W => Go.run_copy_none (P := Tryz.prog) W 45 45 ty 9 _ _ 0 0 1 1 (by kernel_rfl) (by kernel_rfl) rfl
  clear hn
  go_enter Tryz.func73, Tryz.ntmps73
  go_wp2_with (first | (go_at_call 108; refine (q _).mono ?_; rintro e w1 ⟨rfl, hw1⟩; subst w1))
  refine wp_loop_rounds 1 ?_
  rw [rounds_succ]
  go_wp2
  go_ret
  exact ⟨_, rfl, HN.out⟩
set_option maxRecDepth 100000 in
set_option maxHeartbeats 4000000 in
theorem repeat_some (x : ByteArray) (g n : Nat) (h0 : 0 < n) (hn : n ≤ 12) (w : World) (hg : w.cell? ⟨g, 0, none⟩ = some (.string x)) : Calls Tryz.prog 73 #[.slice (some ⟨g, 0, none⟩) 1 1, .int .i64 n] w fun e w' => ∃ k, e = .returned (.slice (some ⟨k, 0, none⟩) n n) ∧ RepB w w' k n n x := by
  have hmk := made_str n hn
  have q := fun w => mul_few n hn w
  have hnew := rep_new w n x
  have hgl := wlt hg
  have hg1 : (w.alloc (.cells (madeCells #[.string ⟨#[]⟩] n) 9)).cell? ⟨g, 0, none⟩ = some (.string x) := (hnew.bel.cell (p := ⟨g, 0, none⟩) hgl).trans hg
  have hcp : ∀ ty : TypeId, (Builtin.copy_ #[45, 45] ty #[.slice (some ⟨w.heap.size, 0, none⟩) n n, .slice (some ⟨g, 0, none⟩) 1 1]).run Tryz.prog (w.alloc (.cells (madeCells #[.string ⟨#[]⟩] n) 9)) = .ok (.int .i64 1) ((w.alloc (.cells (madeCells #[.string ⟨#[]⟩] n) 9)).setCells w.heap.size 0 (List.replicate 1 (.string x))) := fun ty =>
    copy_rep hnew ⟨g, 0, none⟩ 1 1 n 1 (by omega) (fun i hi => by obtain rfl : i = 0 := (by omega); exact hg1) ty
  have HM : Hid (RepB w ((w.alloc (.cells (madeCells #[.string ⟨#[]⟩] n) 9)).setCells w.heap.size 0 (List.replicate 1 (.string x))) w.heap.size n 1 x) := hnew.more 1 (by omega)
  have hd1 : decide ((n : Int) < 0) = false := decide_eq_false (by omega)
  have hd2 : decide (9223372036854775807 < (n : Int)) = false := decide_eq_false (by omega)
  clear hnew hg1
  go_enter Tryz.func73, Tryz.ntmps73
  go_wp2_with (first | (go_at_call 108; refine (q _).mono ?_; rintro e w1 ⟨rfl, hw1⟩; subst w1))
  go_loopw [8] (fun i wr => ∃ j : Nat, 1 ≤ j ∧ j ≤ n ∧ i = .int .i64 j ∧ RepB w wr w.heap.size n j x) (fun i _ => n - (intOf i).toNat)
  case atStart => exact ⟨1, Nat.le_refl _, by omega, rfl, HM.out⟩
  case round =>
  obtain ⟨j, hj1, hjn, rfl, hR⟩ := hrel
  clear HM hcp hmk q hg hd1 hd2
  by_cases hlt : j < n
  · have hji : (j : Int) < (n : Int) := by omega
    obtain ⟨m, hm⟩ : ∃ m, m = min j (n - j) := ⟨_, rfl⟩
    have HR : Hid (RepB w (wr.drew.setCells w.heap.size j (List.replicate m (.string x))) w.heap.size n (j + m) x) := hR.drew.more m (by omega)
    have hcp : ∀ ty : TypeId, (Builtin.copy_ #[45, 45] ty #[.slice (some ⟨w.heap.size, j, none⟩) (n - j) (n - j), .slice (some ⟨w.heap.size, 0, none⟩) j n]).run Tryz.prog wr.drew = .ok (.int .i64 m) (wr.drew.setCells w.heap.size j (List.replicate m (.string x))) := fun ty =>
      copy_rep hR.drew ⟨w.heap.size, 0, none⟩ j n (n - j) m hm (fun i hi => by rw [Addr.add_lit, Nat.zero_add]; exact hR.at_ i (by omega)) ty
    have hm1 : 1 ≤ m ∧ j + m ≤ n := by omega
    have hne : ¬ n = j := by omega
    clear hR hm
    go_wp2
    go_region
    all_goals
      go_wp2_with fail
      go_roundw
      case rel => exact ⟨j + m, by omega, by omega, by go_num, HR.out⟩
      case measure => simp [intOf]; omega
  have hji : decide ((j : Int) < (n : Int)) = false := decide_eq_false (by omega)
  have hjn2 : decide (j < n) = false := decide_eq_false (by omega)
  obtain rfl : j = n := by omega
  have HR : Hid (RepB w wr w.heap.size j j x) := hR
  clear hR
  go_wp2
  go_ret
  exact ⟨_, rfl, HR.out⟩
end Go.Proofs.YtajfgmlockjmhaiGreatDoor
namespace Go.Proofs.YtajfgmlockjmhaiGreatDoor
open Go.RowKit

theorem cell_at_new {w : World} {k : Nat} (hk : k = w.heap.size) (x : Value) (t : TypeId) : (w.alloc (.cells #[x] t)).cell? ⟨k, 0, none⟩ = some x := by
  subst hk
  simp
def aheadB (R V : Nat) : List (List UInt8) := [snTimeW] ++ List.replicate R snRoomW ++ List.replicate V snWireW
def strV (l : List UInt8) : Value := .string ⟨l.toArray⟩
def aheadV (R V : Nat) : List Value := (aheadB R V).map strV
theorem aheadB_len (R V : Nat) : (aheadB R V).length = 1 + R + V := by simp [aheadB]; omega
theorem aheadV_len (R V : Nat) : (aheadV R V).length = 1 + R + V := by rw [aheadV, List.length_map, aheadB_len]
theorem aheadB_at (R V i : Nat) : (aheadB R V)[i]? = kpWord R V i := by
  unfold aheadB kpWord
  by_cases h0 : i = 0
  · subst h0
    simp
  · rw [if_neg h0]
    by_cases h1 : i ≤ R
    · rw [if_pos h1, List.getElem?_append_left (by simp; omega), List.getElem?_append_right (by simp; omega), List.getElem?_replicate, if_pos (by simp; omega)]
    · rw [if_neg h1, List.getElem?_append_right (by simp; omega), List.getElem?_replicate]
      by_cases h2 : i ≤ R + V
      · rw [if_pos h2, if_pos (by simp; omega)]
      · rw [if_neg h2, if_neg (by simp; omega)]
theorem repeat_any (x : ByteArray) (n : Nat) (hn : n ≤ 12) (g : Nat) (w : World) (hg : w.cell? ⟨g, 0, none⟩ = some (.string x)) : Calls Tryz.prog 73 #[.slice (some ⟨g, 0, none⟩) 1 1, .int .i64 n] w fun e w' => ∃ k, e = .returned (.slice (some ⟨k, 0, none⟩) n n) ∧ RepB w w' k n n x := by
  by_cases h0 : n = 0
  · subst h0
    exact repeat_none x g w
  · exact repeat_some x g n (by omega) hn w hg
theorem ahead_conc (R V : Nat) (hR : R ≤ 12) (hV : V ≤ 12) (g kt k1 k2 : Nat) (W : World) (hgl : g < W.heap.size) (hk : kt < W.heap.size ∧ k1 < W.heap.size ∧ k2 < W.heap.size)
    (hc0 : W.cell? ⟨g, 0, none⟩ = some (.slice (some ⟨kt, 0, none⟩) 1 1)) (hc1 : W.cell? ⟨g, 1, none⟩ = some (.slice (some ⟨k1, 0, none⟩) R R)) (hc2 : W.cell? ⟨g, 2, none⟩ = some (.slice (some ⟨k2, 0, none⟩) V V))
    (ht : W.cell? ⟨kt, 0, none⟩ = some (strV snTimeW)) (h1 : ∀ i, i < R → W.cell? ⟨k1, i, none⟩ = some (strV snRoomW)) (h2 : ∀ i, i < V → W.cell? ⟨k2, i, none⟩ = some (strV snWireW)) :
    Calls Tryz.prog 72 #[.slice (some ⟨g, 0, none⟩) 3 3] W fun e w' => ∃ ga c, e = .returned (.slice (some ⟨ga, 0, none⟩) (1 + R + V) c) ∧ w'.ownsRow W.heap.size 9 1 (.slice (some ⟨ga, 0, none⟩) (1 + R + V) c) (1 + R + V) (aheadV R V) ∧ Below W.heap.size W w' := by
  have hfl : [[strV snTimeW], List.replicate R (strV snRoomW), List.replicate V (strV snWireW)].flatten = aheadV R V := by simp [aheadV, aheadB]
  have hrep : ∀ (n : Nat) (v x : Value), x ∈ List.replicate n v → x = v := fun n v x h => List.eq_of_mem_replicate h
  have q := concatS [.slice (some ⟨kt, 0, none⟩) 1 1, .slice (some ⟨k1, 0, none⟩) R R, .slice (some ⟨k2, 0, none⟩) V V] [[strV snTimeW], List.replicate R (strV snRoomW), List.replicate V (strV snWireW)] g 3 W rfl (Nat.le_refl _) (by rw [hfl, aheadV_len]; omega) (by rw [hfl, aheadV_len]; omega) hgl
    (fun i v hv => by
      match i, hv with
      | 0, hv => simp at hv; subst hv; exact hc0
      | 1, hv => simp at hv; subst hv; exact hc1
      | 2, hv => simp at hv; subst hv; exact hc2
      | i + 3, hv => simp at hv)
    (fun i v l hv hl => by
      match i, hv, hl with
      | 0, hv, hl =>
        simp at hv hl
        subst hv
        subst hl
        exact Or.inr ⟨kt, 0, 1, rfl, hk.1, fun j x hx => by
          match j, hx with
          | 0, hx => simp at hx; subst hx; exact ht
          | j + 1, hx => simp at hx⟩
      | 1, hv, hl =>
        simp at hv hl
        subst hv
        subst hl
        refine Or.inr ⟨k1, 0, R, by rw [List.length_replicate], hk.2.1, fun j x hx => ?_⟩
        have hj := (List.getElem?_eq_some_iff.1 hx).1
        rw [List.length_replicate] at hj
        rw [hrep _ _ _ (List.mem_of_getElem? hx), Nat.zero_add]
        exact h1 j hj
      | 2, hv, hl =>
        simp at hv hl
        subst hv
        subst hl
        refine Or.inr ⟨k2, 0, V, by rw [List.length_replicate], hk.2.2, fun j x hx => ?_⟩
        have hj := (List.getElem?_eq_some_iff.1 hx).1
        rw [List.length_replicate] at hj
        rw [hrep _ _ _ (List.mem_of_getElem? hx), Nat.zero_add]
        exact h2 j hj
      | i + 3, hv, _ => simp at hv)
    (fun l hl y hy => by
      simp only [List.mem_cons, List.not_mem_nil, or_false] at hl
      rcases hl with rfl | rfl | rfl
      · rw [List.mem_singleton] at hy; subst hy; rfl
      · rw [hrep _ _ _ hy]; rfl
      · rw [hrep _ _ _ hy]; rfl)
  rw [hfl, aheadV_len] at q
  refine q.mono ?_
  rintro e w' ⟨ao, c, rfl, own, hb⟩
  obtain ⟨ga, cc, he⟩ : ∃ ga cc, Value.slice ao (1 + R + V) c = .slice (some ⟨ga, 0, none⟩) (1 + R + V) cc := by
    rcases own.2 with ⟨h3, h4⟩ | ⟨ga, cc, cur, h3, _⟩
    · omega
    · exact ⟨ga, cc, h3⟩
  injection he with e1 _ e3
  subst e1
  subst e3
  exact ⟨ga, c, rfl, own, hb⟩
theorem ahead_call (R V : Nat) (hR : R ≤ 12) (hV : V ≤ 12) (w1 w2 W0 : World) (kt k1 k2 : Nat) (t : TypeId) (o : Obj) (ht : kt < W0.heap.size) (hc : W0.cell? ⟨kt, 0, none⟩ = some (strV snTimeW)) (r1 : RepB W0 w1 k1 R R ⟨snRoomW.toArray⟩) (r2 : RepB (w1.alloc o) w2 k2 V V ⟨snWireW.toArray⟩) :
    Calls Tryz.prog 72 #[.slice (some ⟨w2.heap.size, 0, none⟩) 3 3] (w2.alloc (.cells #[.slice (some ⟨kt, 0, none⟩) 1 1, .slice (some ⟨k1, 0, none⟩) R R, .slice (some ⟨k2, 0, none⟩) V V] t)) fun e w' => ∃ ga c, e = .returned (.slice (some ⟨ga, 0, none⟩) (1 + R + V) c) ∧ w'.ownsRow (w2.heap.size + 1) 9 1 (.slice (some ⟨ga, 0, none⟩) (1 + R + V) c) (1 + R + V) (aheadV R V) ∧ Below W0.heap.size W0 w' := by
  have hA : Below w2.heap.size w2 (w2.alloc (.cells #[.slice (some ⟨kt, 0, none⟩) 1 1, .slice (some ⟨k1, 0, none⟩) R R, .slice (some ⟨k2, 0, none⟩) V V] t)) := (Below.refl _ _).alloc (Nat.le_refl _) _
  have hs1 := r1.bel.size
  have hs2 := r2.bel.size
  have hl1 := r1.lt
  have hl2 := r2.lt
  simp only [World.size_alloc] at hs2
  have hk : ∀ k, k < w1.heap.size → (w2.alloc (.cells #[.slice (some ⟨kt, 0, none⟩) 1 1, .slice (some ⟨k1, 0, none⟩) R R, .slice (some ⟨k2, 0, none⟩) V V] t)).heap[k]? = w1.heap[k]? := fun k h => (hA.block k (by omega)).trans ((r2.bel.block k (by simp; omega)).trans (((Below.refl _ w1).alloc (Nat.le_refl _) _).block k h))
  have hc1 : ∀ k i, k < w1.heap.size → (w2.alloc (.cells #[.slice (some ⟨kt, 0, none⟩) 1 1, .slice (some ⟨k1, 0, none⟩) R R, .slice (some ⟨k2, 0, none⟩) V V] t)).cell? ⟨k, i, none⟩ = w1.cell? ⟨k, i, none⟩ := fun k i h => World.cell?_of_block (a := ⟨k, i, none⟩) (hk k h)
  have q := ahead_conc R V hR hV w2.heap.size kt k1 k2 (w2.alloc (.cells #[.slice (some ⟨kt, 0, none⟩) 1 1, .slice (some ⟨k1, 0, none⟩) R R, .slice (some ⟨k2, 0, none⟩) V V] t)) (by simp) (by simp; omega) (by simp) (by simp) (by simp)
    ((hc1 kt 0 (by omega)).trans ((r1.bel.cell (p := ⟨kt, 0, none⟩) ht).trans hc)) (fun i hi => (hc1 k1 i hl1).trans (r1.at_ i hi)) (fun i hi => (hA.cell (p := ⟨k2, i, none⟩) hl2).trans (r2.at_ i hi))
  refine q.mono ?_
  rintro e w' ⟨ga, c, rfl, own, hb⟩
  rw [World.size_alloc] at own
  refine ⟨ga, c, rfl, own, ?_⟩
  have h2 : Below W0.heap.size W0 w2 := r1.bel.trans ((((Below.refl _ w1).alloc (Nat.le_refl _) o).mono hs1).trans (r2.bel.mono (by simp; omega)))
  exact h2.trans ((hA.mono (by omega)).trans (hb.mono (by simp; omega)))
/-- What is left of the words behind so many lines. -/
def AhdV (ga c R V i : Nat) (v : Value) : Prop := ∃ A : Addr, v = .slice (some A) (1 + R + V - i) (c - i) ∧ i ≤ 1 + R + V ∧ 1 + R + V ≤ c ∧ (i < c → A = ⟨ga, i, none⟩)
theorem AhdV.at_ {W : World} {base ga c R V i : Nat} {v : Value} {wd : List UInt8} (own : W.ownsRow base 9 1 (.slice (some ⟨ga, 0, none⟩) (1 + R + V) c) (1 + R + V) (aheadV R V)) (h : AhdV ga c R V i v) (hw : kpWord R V i = some wd) : v = .slice (some ⟨ga, i, none⟩) (1 + R + V - i) (c - i) ∧ i < 1 + R + V ∧ i < c ∧ W.cell? ⟨ga, i, none⟩ = some (strV wd) := by
  obtain ⟨A, rfl, h1, h2, h3⟩ := h
  have hi : i < 1 + R + V := by
    unfold kpWord at hw
    split at hw
    · omega
    · split at hw
      · omega
      · split at hw
        · omega
        · cases hw
  refine ⟨by rw [h3 (by omega)], hi, by omega, ?_⟩
  have hc := own_cap own
  refine hc.2.2.2.2.1 i _ ?_
  unfold aheadV
  rw [List.getElem?_map, aheadB_at, hw]
  rfl
theorem AhdV.next {ga c R V i : Nat} {n m : Nat} (h : i < 1 + R + V) (hc : 1 + R + V ≤ c) (hn : n = 1 + R + V - (i + 1)) (hm : m = c - (i + 1)) : AhdV ga c R V (i + 1) (.slice (if m = 0 then some ⟨ga, i, none⟩ else some ⟨ga, i + 1, none⟩) n m) := by
  subst hn
  subst hm
  by_cases h0 : c - (i + 1) = 0
  · rw [if_pos h0]
    exact ⟨⟨ga, i, none⟩, rfl, by omega, hc, fun h1 => by omega⟩
  · rw [if_neg h0]
    exact ⟨⟨ga, i + 1, none⟩, rfl, by omega, hc, fun _ => rfl⟩
theorem tail_ge : ∀ (ns : List Int), ns.length ≤ (tail ns).length
  | [] => Nat.le_refl _
  | n :: ns => by
    have h := tail_ge ns
    have e : tail (n :: ns) = 32 :: Lib.itoa n ++ tail ns := by simp [tail]
    rw [e, List.length_append, List.length_cons, List.length_cons]
    omega
theorem read7B_len {l w : List UInt8} {ns : List Int} (h : read7B l = some (w, ns)) : ns.length ≤ l.length := by
  unfold read7B at h
  split at h
  · have h1 := (wn_back h).1
    have h2 := tail_ge ns
    have h3 : (w ++ tail ns).length ≤ l.length := by rw [h1, List.length_dropLast]; omega
    rw [List.length_append] at h3
    omega
  · cases h
end Go.Proofs.YtajfgmlockjmhaiGreatDoor
