/-
  Package snap: take. What a line says.
-/
import Derived.Test.YtajfgmlockjmhaiGreatDoorJt3
import Derived.Test.YtajfgmlockjmhaiGreatDoorJt6
import Derived.Test.YtajfgmlockjmhaiGreatDoorJt1
import Derived.Test.YtajfgmlockjmhaiGreatDoorJt2
import Derived.Laws.IdiomCopy
import Derived.BigQuiet
import Derived.Deep.CutRange
import Derived.Deep.RegionWith
import Derived.Deep.RegionHeld3
import Derived.RangeFuncNested
namespace Go.Proofs.YtajfgmlockjmhaiGreatDoor
open Go.RowKit

theorem StB.lt {W : World} {b : Nat} {s : St} (h : StB W b s) : b < W.heap.size := (Array.getElem?_eq_some_iff.1 h).1
theorem hd_one' (a : Option Addr) (n c : Nat) (z : Int) : ∀ u ∈ [Value.slice a n c, .int .i64 z], u.oneCell' = true := by
  intro u hu
  simp only [List.mem_cons, List.not_mem_nil, or_false] at hu
  rcases hu with rfl | rfl <;> rfl
theorem cell_one' {W : World} {b o : Nat} {cur : Array Value} {e : TypeId} {v : Value} (h : W.heap[b]? = some (.cells cur e (0, 0))) : (W.setCell ⟨b, o, none⟩ v).heap[b]? = some (.cells (cur.setIfInBounds o v) e (0, 0)) := by
  simp [World.setCell, Array.getElem?_modify, h]
theorem six_cells {W : World} {b : Nat} {x0 x1 x2 x3 x4 x5 x6 x7 : Value} {e : TypeId} (h : W.heap[b]? = some (.cells #[x0, x1, x2, x3, x4, x5, x6, x7] e (0, 0))) (d0 d1 d2 d3 d4 d5 : Int) :
    (W.setCells b 1 [.int .i64 d0, .int .i64 d1, .int .i64 d2, .int .i64 d3, .int .i64 d4, .int .i64 d5]).heap[b]? = some (.cells #[x0, .int .i64 d0, .int .i64 d1, .int .i64 d2, .int .i64 d3, .int .i64 d4, .int .i64 d5, x7] e (0, 0)) :=
  cell_one' (cell_one' (cell_one' (cell_one' (cell_one' (cell_one' h)))))
theorem below_cells {B : Nat} {w : World} : ∀ (vs : List Value) (o : Nat) {W : World}, Below B w W → Below B w (W.setCells B o vs)
  | [], _, _, h => h
  | v :: vs, o, _, h => below_cells vs (o + 1) (h.setCell (p := ⟨B, o, none⟩) (Nat.le_refl _) v)
set_option maxRecDepth 100000 in
set_option maxHeartbeats 4000000 in
theorem take_time {base b : Nat} {t : Int} {vr vw : Value} {rs : List St} {us : List (Value × Int)} {zs : List (List Int × Int)} (n : Int) (g cap : Nat) (w : World) (h : KpB w base b t vr vw rs us zs) (hn : w.cell? ⟨g, 0, none⟩ = some (.int .i64 n)) :
    Calls Tryz.prog 76 #[.pointer (some ⟨b, 0, none⟩), .string ⟨snTimeW.toArray⟩, .slice (some ⟨g, 0, none⟩) 1 cap] w fun e w' => e = .returned (.bool true) ∧ KpB w' base b n vr vw rs us zs ∧ Tk base b w w' := by
  have H : Hid (KpB w base b t vr vw rs us zs) := h
  have c0 := h.c0
  have f0 := h.f0
  clear h
  unfold snTimeW
  go_enter Tryz.func76, Tryz.ntmps76
  go_wp2
  go_ret
  exact ⟨rfl, H.out.time n, Tk.set base w 0 _⟩
set_option maxRecDepth 100000 in
set_option maxHeartbeats 4000000 in
theorem take_tno {b : Nat} (ao : Option Addr) (m cap : Nat) (w : World) (hm : m ≠ 1) :
    Calls Tryz.prog 76 #[.pointer (some ⟨b, 0, none⟩), .string ⟨snTimeW.toArray⟩, .slice ao m cap] w fun e w' => e = .returned (.bool false) ∧ w' = w := by
  have hm2 : ((m : Int) == 1) = false := beq_false_of_ne (by omega)
  clear hm
  unfold snTimeW
  go_enter Tryz.func76, Tryz.ntmps76
  go_wp2
  go_ret
  exact ⟨rfl, rfl⟩
set_option maxRecDepth 100000 in
set_option maxHeartbeats 4000000 in
theorem take_rno {b : Nat} (ao : Option Addr) (m cap : Nat) (w : World) (hm : m ≠ 8) :
    Calls Tryz.prog 76 #[.pointer (some ⟨b, 0, none⟩), .string ⟨snRoomW.toArray⟩, .slice ao m cap] w fun e w' => e = .returned (.bool false) ∧ w' = w := by
  have hm2 : ((m : Int) == 8) = false := beq_false_of_ne (by omega)
  clear hm
  unfold snRoomW
  go_enter Tryz.func76, Tryz.ntmps76
  go_wp2
  go_ret
  exact ⟨rfl, rfl⟩
set_option maxRecDepth 100000 in
set_option maxHeartbeats 4000000 in
theorem take_rbad {b : Nat} (g cap : Nat) (f : Int) (w : World) (hf : 1 < f) (h7 : w.cell? ⟨g, 7, none⟩ = some (.int .i64 f)) :
    Calls Tryz.prog 76 #[.pointer (some ⟨b, 0, none⟩), .string ⟨snRoomW.toArray⟩, .slice (some ⟨g, 0, none⟩) 8 cap] w fun e w' => e = .returned (.bool false) ∧ w' = w := by
  have hm2 : decide (f ≤ 1) = false := decide_eq_false (by omega)
  clear hf
  unfold snRoomW
  go_enter Tryz.func76, Tryz.ntmps76
  go_wp2
  go_ret
  exact ⟨rfl, rfl⟩
set_option maxRecDepth 100000 in
set_option maxHeartbeats 4000000 in
theorem take_wno {b : Nat} (ao : Option Addr) (cap : Nat) (w : World) :
    Calls Tryz.prog 76 #[.pointer (some ⟨b, 0, none⟩), .string ⟨snWireW.toArray⟩, .slice ao 0 cap] w fun e w' => e = .returned (.bool false) ∧ w' = w := by
  unfold snWireW
  go_enter Tryz.func76, Tryz.ntmps76
  go_wp2
  go_ret
  exact ⟨rfl, rfl⟩
set_option maxRecDepth 1000000 in
set_option maxHeartbeats 8000000 in
theorem take_room {base b : Nat} {t : Int} {vr vw : Value} {rs : List St} {us : List (Value × Int)} {zs : List (List Int × Int)} (p d0 d1 d2 d3 d4 d5 f : Int) (g cap : Nat) (w : World) (h : KpB w base b t vr vw rs us zs) (hrs : rs.length ≤ 1000) (hcap : 8 ≤ cap) (hcm : cap ≤ 9223372036854775807)
    (h0 : w.cell? ⟨g, 0, none⟩ = some (.int .i64 p)) (h1 : w.cell? ⟨g, 1, none⟩ = some (.int .i64 d0)) (h2 : w.cell? ⟨g, 2, none⟩ = some (.int .i64 d1)) (h3 : w.cell? ⟨g, 3, none⟩ = some (.int .i64 d2)) (h4 : w.cell? ⟨g, 4, none⟩ = some (.int .i64 d3)) (h5 : w.cell? ⟨g, 5, none⟩ = some (.int .i64 d4)) (h6 : w.cell? ⟨g, 6, none⟩ = some (.int .i64 d5)) (h7 : w.cell? ⟨g, 7, none⟩ = some (.int .i64 f)) (hf : f ≤ 1) (s : St) (hs : s = ⟨p, fun i => if i = 0 then d0 else if i = 1 then d1 else if i = 2 then d2 else if i = 3 then d3 else if i = 4 then d4 else if i = 5 then d5 else 0, decide (f = 1)⟩) :
    Calls Tryz.prog 76 #[.pointer (some ⟨b, 0, none⟩), .string ⟨snRoomW.toArray⟩, .slice (some ⟨g, 0, none⟩) 8 cap] w fun e w' => e = .returned (.bool true) ∧ ∃ vr', KpB w' base b t vr' vw (rs ++ [s]) us zs ∧ Tk base b w w' := by
  obtain ⟨va, vc, rfl⟩ := sl_form h.rr
  have H : Hid (KpB w base b t (.slice va rs.length vc) vw rs us zs) := h
  have hgl := wlt h0
  have hblt : b < w.heap.size := Nat.lt_of_lt_of_le h.lt h.le
  have c1 := h.c1
  have k1 := h.f1
  have HS : Hid (s = ⟨p, fun i => if i = 0 then d0 else if i = 1 then d1 else if i = 2 then d2 else if i = 3 then d3 else if i = 4 then d4 else if i = 5 then d5 else 0, decide (f = 1)⟩) := hs
  clear h hs
  unfold snRoomW
  go_enter Tryz.func76, Tryz.ntmps76
  go_upto_region 5 with fail
  go_cut [7] from 36 to 43 (fun s7 wx => s7 = .pointer (some ⟨w.heap.size, 0, none⟩) ∧ wx = (w.alloc (.cells #[.int .i64 p, .int .i64 0, .int .i64 0, .int .i64 0, .int .i64 0, .int .i64 0, .int .i64 0, .bool (f == 1)] 73)).drew)
  case first =>
    go_region
    all_goals
      go_wp2_with fail
      go_meet
      case rel => exact ⟨rfl, rfl⟩
  case rest =>
  obtain ⟨rfl, hwc⟩ := hcut
  have hA : Below w.heap.size w wc := by rw [hwc]; exact ((Below.refl _ _).alloc (Nat.le_refl _) _).drew
  have hB : wc.heap[w.heap.size]? = some (.cells #[.int .i64 p, .int .i64 0, .int .i64 0, .int .i64 0, .int .i64 0, .int .i64 0, .int .i64 0, .bool (f == 1)] 73 (0, 0)) := by rw [hwc]; exact World.alloc_heap_new _ _
  clear hwc
  generalize wc = W1 at *
  have g1 := (hA.cell (p := ⟨g, 1, none⟩) hgl).trans h1
  have g2 := (hA.cell (p := ⟨g, 2, none⟩) hgl).trans h2
  have g3 := (hA.cell (p := ⟨g, 3, none⟩) hgl).trans h3
  have g4 := (hA.cell (p := ⟨g, 4, none⟩) hgl).trans h4
  have g5 := (hA.cell (p := ⟨g, 5, none⟩) hgl).trans h5
  have g6 := (hA.cell (p := ⟨g, 6, none⟩) hgl).trans h6
  have hcp : ∀ (ty : TypeId) (c' : Nat), (Builtin.copy_ #[58, 58] ty #[.slice (some ⟨w.heap.size, 1, none⟩) 6 6, .slice (some ⟨g, 1, none⟩) 6 c']).run Tryz.prog W1.drew = .ok (.int .i64 6) (W1.drew.setCells w.heap.size 1 [.int .i64 d0, .int .i64 d1, .int .i64 d2, .int .i64 d3, .int .i64 d4, .int .i64 d5]) := fun ty c' => by
    refine Go.run_copy_cells (P := Tryz.prog) W1.drew 58 58 ty 3 w.heap.size 1 6 6 ⟨g, 1, none⟩ 6 c' [.int .i64 d0, .int .i64 d1, .int .i64 d2, .int .i64 d3, .int .i64 d4, .int .i64 d5] Tryz.underlying58 (by kernel_rfl) rfl ?_ ?_ ?_ ?_
    · intro j v hj
      rw [Addr.add_lit]
      match j, hj with
      | 0, hj => simp at hj; subst hj; exact g1
      | 1, hj => simp at hj; subst hj; exact g2
      | 2, hj => simp at hj; subst hj; exact g3
      | 3, hj => simp at hj; subst hj; exact g4
      | 4, hj => simp at hj; subst hj; exact g5
      | 5, hj => simp at hj; subst hj; exact g6
      | j + 6, hj => simp at hj
    · intro j hj
      show (W1.cell? _).isSome = true
      unfold World.cell?
      simp only [hB]
      match j, hj with
      | 0, _ => rfl
      | 1, _ => rfl
      | 2, _ => rfl
      | 3, _ => rfl
      | 4, _ => rfl
      | 5, _ => rfl
      | j + 6, hj => exact absurd hj (by simp)
    · intro j _
      show W1.frozen? _ = false
      unfold World.frozen?
      simp [hB]
    · intro v hv
      simp only [List.mem_cons, List.not_mem_nil, or_false] at hv
      rcases hv with rfl | rfl | rfl | rfl | rfl | rfl <;> rfl
  have hc1 : ¬ cap = 1 := by omega
  clear g1 g2 g3 g4 g5 g6 h0 h1 h2 h3 h4 h5 h6 h7
  go_upto_region 6 with fail
  go_cut [48] from 44 to 48 (fun _ wx => wx = (W1.drew.setCells w.heap.size 1 [.int .i64 d0, .int .i64 d1, .int .i64 d2, .int .i64 d3, .int .i64 d4, .int .i64 d5]))
  case first =>
    go_region
    all_goals
      go_wp2_with fail
      go_meet
      case rel => rfl
  case rest =>
  have hA2 : Below w.heap.size w wc := by rw [hcut]; exact below_cells _ _ hA.drew
  have hB2 : StB wc w.heap.size s := by
    rw [hcut, HS.out]
    unfold StB
    have hh := six_cells (W := W1.drew) hB d0 d1 d2 d3 d4 d5
    rw [hh]
    rfl
  clear hcut hcp hB hA hc1 HS
  -- APPEND
  have hblc : b < wc.heap.size := Nat.lt_of_lt_of_le hblt hA2.size
  have hsb : w.heap.size < wc.heap.size := hB2.lt
  have c9 : wc.cell? ⟨b, 1, none⟩ = some (.slice va rs.length vc) := (hA2.cell (p := ⟨b, 1, none⟩) hblt).trans c1
  have k9 : wc.frozen? ⟨b, 1, none⟩ = false := (hA2.frozen (p := ⟨b, 1, none⟩) hblt).trans k1
  obtain ⟨n0, n1, n2, n3, n4, n5, n6, n7⟩ := hB2.cs
  simp only [Nat.zero_add] at n1 n2 n3 n4 n5 n6 n7
  have hbase := H.out.lt
  have HA : Hid (∀ W : World, (∀ k, k < wc.heap.size → (∀ j, (Value.slice va rs.length vc).ownBlock = some j → j = k → False) → W.heap[k]? = wc.heap[k]?) → (∀ k, (Value.slice va rs.length vc).ownBlock = some k → base ≤ k ∧ k < w.heap.size) → W.cell? ⟨b, 1, none⟩ = some (.slice va rs.length vc) ∧ W.cell? ⟨w.heap.size, 0, none⟩ = some (.int .i64 s.p) ∧ W.cell? ⟨w.heap.size, 1, none⟩ = some (.int .i64 (s.c 0)) ∧ W.cell? ⟨w.heap.size, 2, none⟩ = some (.int .i64 (s.c 1)) ∧ W.cell? ⟨w.heap.size, 3, none⟩ = some (.int .i64 (s.c 2)) ∧ W.cell? ⟨w.heap.size, 4, none⟩ = some (.int .i64 (s.c 3)) ∧ W.cell? ⟨w.heap.size, 5, none⟩ = some (.int .i64 (s.c 4)) ∧ W.cell? ⟨w.heap.size, 6, none⟩ = some (.int .i64 (s.c 5)) ∧ W.cell? ⟨w.heap.size, 7, none⟩ = some (.bool s.f)) := fun W hW hcr => by
    have hb := hW b hblc (fun j h1 h2 => by have := hcr j h1; omega)
    have hs := hW w.heap.size hsb (fun j h1 h2 => by have := hcr j h1; omega)
    have h1 := fun o => World.cell?_of_block (w := wc) (w' := W) (a := ⟨b, o, none⟩) hb
    have h2 := fun o => World.cell?_of_block (w := wc) (w' := W) (a := ⟨w.heap.size, o, none⟩) hs
    exact ⟨(h1 1).trans c9, (h2 0).trans n0, (h2 1).trans n1, (h2 2).trans n2, (h2 3).trans n3, (h2 4).trans n4, (h2 5).trans n5, (h2 6).trans n6, (h2 7).trans n7⟩
  have HQ : Hid (∀ W : World, Below wc.heap.size wc W → W.cell? ⟨b, 1, none⟩ = some (.slice va rs.length vc) ∧ W.cell? ⟨w.heap.size, 0, none⟩ = some (.int .i64 s.p) ∧ W.cell? ⟨w.heap.size, 1, none⟩ = some (.int .i64 (s.c 0)) ∧ W.cell? ⟨w.heap.size, 2, none⟩ = some (.int .i64 (s.c 1)) ∧ W.cell? ⟨w.heap.size, 3, none⟩ = some (.int .i64 (s.c 2)) ∧ W.cell? ⟨w.heap.size, 4, none⟩ = some (.int .i64 (s.c 3)) ∧ W.cell? ⟨w.heap.size, 5, none⟩ = some (.int .i64 (s.c 4)) ∧ W.cell? ⟨w.heap.size, 6, none⟩ = some (.int .i64 (s.c 5)) ∧ W.cell? ⟨w.heap.size, 7, none⟩ = some (.bool s.f)) := fun W hb => HA.out W (fun k hk _ => hb.block k hk) (fun k hk => H.out.rr.lt k hk)
  clear n0 n1 n2 n3 n4 n5 n6 n7 hB2 c1 k1 hbase hsb
  go_upto_region 7 with fail
  refine wp_region_popped (fun W : World => W.cell? ⟨b, 1, none⟩ = some (.slice va rs.length vc) ∧ W.cell? ⟨w.heap.size, 0, none⟩ = some (.int .i64 s.p) ∧ W.cell? ⟨w.heap.size, 1, none⟩ = some (.int .i64 (s.c 0)) ∧ W.cell? ⟨w.heap.size, 2, none⟩ = some (.int .i64 (s.c 1)) ∧ W.cell? ⟨w.heap.size, 3, none⟩ = some (.int .i64 (s.c 2)) ∧ W.cell? ⟨w.heap.size, 4, none⟩ = some (.int .i64 (s.c 3)) ∧ W.cell? ⟨w.heap.size, 5, none⟩ = some (.int .i64 (s.c 4)) ∧ W.cell? ⟨w.heap.size, 6, none⟩ = some (.int .i64 (s.c 5)) ∧ W.cell? ⟨w.heap.size, 7, none⟩ = some (.bool s.f)) (by kernel_rfl) rfl (by decide +kernel) (HQ.out _ (Below.refl _ _).drew) (fun hHeld => ?_)
  simp only [List.pop_toArray, List.dropLast_cons_cons, List.dropLast_singleton, List.size_toArray, List.length_cons, List.length_nil, Nat.reduceAdd, Array.replicate_succ, Array.replicate_zero, List.push_toArray, List.nil_append, List.cons_append]
  have bD : Below w.heap.size w wc.drew := hA2.drew
  have qD : Below wc.heap.size wc wc.drew := (Below.refl _ _).drew
  generalize wc.drew = wD at bD qD hHeld ⊢
  refine wpAnyH_take (i := 0) (v := ?_) rfl (by decide +kernel) (by decide +kernel) (by decide +kernel) (fun _ _ _ h => h) (Or.inl ⟨by rfl, ?_⟩) (by assumption) ?_
  rotate_left
  · intro W hSw
    try dsimp only at hSw
    obtain ⟨hS0, hS1, hS2, hS3, hS4, hS5, hS6, hS7, hS8⟩ := hSw
    go_simp
    try with_reducible rfl
  simp only [Act.put, List.setIfInBounds_toArray, List.set_cons_zero]
  refine wpAnyH_take (i := 1) (v := ?_) rfl (by decide +kernel) (by decide +kernel) (by decide +kernel) (fun _ _ _ h => h) (Or.inl ⟨by rfl, ?_⟩) (by assumption) ?_
  rotate_left
  · intro W hSw
    try dsimp only at hSw
    obtain ⟨hS0, hS1, hS2, hS3, hS4, hS5, hS6, hS7, hS8⟩ := hSw
    go_simp
    try with_reducible rfl
  simp only [Act.put, List.setIfInBounds_toArray, List.set_cons_zero, List.set_cons_succ]
  refine wpAnyH_take (i := 2) (v := ?_) rfl (by decide +kernel) (by decide +kernel) (by decide +kernel) (fun _ _ _ h => h) (Or.inl ⟨by rfl, ?_⟩) (by assumption) ?_
  rotate_left
  · intro W hSw
    try dsimp only at hSw
    obtain ⟨hS0, hS1, hS2, hS3, hS4, hS5, hS6, hS7, hS8⟩ := hSw
    go_simp
    try with_reducible rfl
  simp only [Act.put, List.setIfInBounds_toArray, List.set_cons_zero, List.set_cons_succ]
  refine wpAnyH_take (i := 3) (v := ?_) rfl (by decide +kernel) (by decide +kernel) (by decide +kernel) (fun _ _ _ h => h) (Or.inl ⟨by rfl, ?_⟩) (by assumption) ?_
  rotate_left
  · intro W hSw
    try dsimp only at hSw
    obtain ⟨hS0, hS1, hS2, hS3, hS4, hS5, hS6, hS7, hS8⟩ := hSw
    go_simp
    try with_reducible rfl
  simp only [Act.put, List.setIfInBounds_toArray, List.set_cons_zero, List.set_cons_succ]
  refine wpAnyH_take (i := 4) (v := ?_) rfl (by decide +kernel) (by decide +kernel) (by decide +kernel) (fun _ _ _ h => h) (Or.inl ⟨by rfl, ?_⟩) (by assumption) ?_
  rotate_left
  · intro W hSw
    try dsimp only at hSw
    obtain ⟨hS0, hS1, hS2, hS3, hS4, hS5, hS6, hS7, hS8⟩ := hSw
    go_simp
    try with_reducible rfl
  simp only [Act.put, List.setIfInBounds_toArray, List.set_cons_zero, List.set_cons_succ]
  refine wpAnyH_take (i := 5) (v := ?_) rfl (by decide +kernel) (by decide +kernel) (by decide +kernel) (fun _ _ _ h => h) (Or.inl ⟨by rfl, ?_⟩) (by assumption) ?_
  rotate_left
  · intro W hSw
    try dsimp only at hSw
    obtain ⟨hS0, hS1, hS2, hS3, hS4, hS5, hS6, hS7, hS8⟩ := hSw
    go_simp
    try with_reducible rfl
  simp only [Act.put, List.setIfInBounds_toArray, List.set_cons_zero, List.set_cons_succ]
  refine wpAnyH_ready (rs := [6]) (by decide +kernel) (by simp) ?_
  refine AllReadyH.cons (o := _) rfl (fun K hK => ?_) AllReadyH.nil
  go_simp
  have b9 : Below w.heap.size w (wD.alloc (.cells #[.int .i64 s.p, .int .i64 (s.c 0), .int .i64 (s.c 1), .int .i64 (s.c 2), .int .i64 (s.c 3), .int .i64 (s.c 4), .int .i64 (s.c 5), .bool s.f] 73)) := bD.alloc bD.size _
  have q9 : Below wc.heap.size wc (wD.alloc (.cells #[.int .i64 s.p, .int .i64 (s.c 0), .int .i64 (s.c 1), .int .i64 (s.c 2), .int .i64 (s.c 3), .int .i64 (s.c 4), .int .i64 (s.c 5), .bool s.f] 73)) := qD.alloc qD.size _
  refine hK.out _ _ (HQ.out _ q9) (fun hHeld => ?_)
  clear hK K
  simp only [List.setIfInBounds_toArray, List.set_cons_zero, List.set_cons_succ]
  refine wpAnyH_ready (rs := [7]) (by decide +kernel) (by simp) ?_
  refine AllReadyH.cons (o := _) rfl (fun K hK => ?_) AllReadyH.nil
  obtain ⟨iT, hiT, hz1, hz2, hz3⟩ := info3 infoSt
  have H9 := H.out.below b9
  have HT9 : Hid _ := Tk.of_below b9 H.out.le H.out.lt
  obtain ⟨v2, wa, hra, hown9, hgr9, hnw9⟩ := run_append_at (P := Tryz.prog) (wD.alloc (.cells #[.int .i64 s.p, .int .i64 (s.c 0), .int .i64 (s.c 1), .int .i64 (s.c 2), .int .i64 (s.c 3), .int .i64 (s.c 4), .int .i64 (s.c 5), .bool s.f] 73)) 63 63 base 73 iT _ 8 64 (by kernel_rfl) hiT hz1 hz2 hz3 rfl (by decide) (Value.slice va rs.length vc) rs.length (stCells rs) H9.rr ⟨wD.heap.size, 0, none⟩ 1 1 [.int .i64 s.p, .int .i64 (s.c 0), .int .i64 (s.c 1), .int .i64 (s.c 2), .int .i64 (s.c 3), .int .i64 (s.c 4), .int .i64 (s.c 5), .bool s.f] rfl (st_new rfl s _) (st_one s) (by have : maxLen = 9223372036854775807 := rfl; omega) (by omega) H9.le
  clear hiT hz1 hz2 hz3
  obtain ⟨rg, rk, rfl⟩ : ∃ g cap, v2 = .slice (some ⟨g, 0, none⟩) (rs.length + 1) cap := own_succ hown9
  have hcr : ∀ k, (Value.slice va rs.length vc).ownBlock = some k → base ≤ k ∧ k < w.heap.size := fun k hk => H.out.rr.lt k hk
  have HQ9 : Hid (wa.cell? ⟨b, 1, none⟩ = some (.slice va rs.length vc) ∧ wa.cell? ⟨w.heap.size, 0, none⟩ = some (.int .i64 s.p) ∧ wa.cell? ⟨w.heap.size, 1, none⟩ = some (.int .i64 (s.c 0)) ∧ wa.cell? ⟨w.heap.size, 2, none⟩ = some (.int .i64 (s.c 1)) ∧ wa.cell? ⟨w.heap.size, 3, none⟩ = some (.int .i64 (s.c 2)) ∧ wa.cell? ⟨w.heap.size, 4, none⟩ = some (.int .i64 (s.c 3)) ∧ wa.cell? ⟨w.heap.size, 5, none⟩ = some (.int .i64 (s.c 4)) ∧ wa.cell? ⟨w.heap.size, 6, none⟩ = some (.int .i64 (s.c 5)) ∧ wa.cell? ⟨w.heap.size, 7, none⟩ = some (.bool s.f)) := HA.out wa (fun k hk hk2 => (hgr9.block k (Nat.lt_of_lt_of_le hk q9.size) (fun e => hk2 k e.symm rfl)).trans (q9.block k hk)) hcr
  have hbb : wa.heap[b]? = wc.heap[b]? := (hgr9.block b (Nat.lt_of_lt_of_le hblc q9.size) (fun e => by have := hcr b e.symm; have := H.out.lt; omega)).trans (q9.block b hblc)
  have s10 : wa.cell? ⟨b, 1, none⟩ = some (Value.slice va rs.length vc) := (World.cell?_of_block (w := wc) (a := ⟨b, 1, none⟩) hbb).trans c9
  have f10 : wa.frozen? ⟨b, 1, none⟩ = false := (World.frozen?_of_block (w := wc) (a := ⟨b, 1, none⟩) hbb).trans k9
  have HR9 := H9.room s hgr9 hown9
  have HF : Hid _ := HR9
  clear HR9
  refine step_append_eq rfl (.tmp 53) (.tmp 55) 63 rfl (Value.slice va rs.length vc) (.slice (some ⟨wD.heap.size, 0, none⟩) 1 1) rfl rfl (.slice (some ⟨rg, 0, none⟩) (rs.length + 1) rk) wa hra ?_
  refine hK.out _ _ HQ9.out (fun hHeld => ?_)
  clear hK K
  simp only [Act.put, List.setIfInBounds_toArray, List.set_cons_zero, List.set_cons_succ]
  refine wpAnyH_take (i := 8) (v := ?_) rfl (by decide +kernel) (by decide +kernel) (by decide +kernel) (fun _ _ _ h => h) (Or.inl ⟨by rfl, ?_⟩) (by assumption) ?_
  rotate_left
  · intro W hSw
    try dsimp only at hSw
    obtain ⟨hS0, hS1, hS2, hS3, hS4, hS5, hS6, hS7, hS8⟩ := hSw
    go_simp
    try with_reducible rfl
  simp only [Act.put, List.setIfInBounds_toArray, List.set_cons_zero, List.set_cons_succ]
  refine wpAnyH_take (i := 9) (v := ?_) rfl (by decide +kernel) (by decide +kernel) (by decide +kernel) (fun _ _ _ h => h) (Or.inl ⟨by rfl, ?_⟩) (by assumption) ?_
  rotate_left
  · intro W hSw
    try dsimp only at hSw
    obtain ⟨hS0, hS1, hS2, hS3, hS4, hS5, hS6, hS7, hS8⟩ := hSw
    go_simp
    try with_reducible rfl
  simp only [Act.put, List.setIfInBounds_toArray, List.set_cons_zero, List.set_cons_succ]
  refine wpAnyH_done (by decide +kernel) ?_ _
  show Oper.wp _ _ _ _ _ _
  go_simp
  clear hra hown9 hgr9 hnw9 hHeld b9 q9 H9 bD qD hbb hcr HQ9
  go_wp2
  go_ret
  exact ⟨rfl, _, HF.out.1, HT9.out.trans HF.out.2⟩
set_option maxRecDepth 1000000 in
set_option maxHeartbeats 8000000 in
theorem take_wire {base b : Nat} {t : Int} {vr vw : Value} {rs : List St} {us : List (Value × Int)} {zs : List (List Int × Int)} (n0 : Int) (xs : List Int) (g cap : Nat) (wc : World) (h : KpB wc base b t vr vw rs us zs) (hus : us.length ≤ 1000) (hxs : xs.length ≤ 2000000000000) (own : wc.ownsRow base 3 1 (.slice (some ⟨g, 0, none⟩) (xs.length + 1) cap) (xs.length + 1) (ints (n0 :: xs))) :
    Calls Tryz.prog 76 #[.pointer (some ⟨b, 0, none⟩), .string ⟨snWireW.toArray⟩, .slice (some ⟨g, 0, none⟩) (xs.length + 1) cap] wc fun e w' => e = .returned (.bool true) ∧ ∃ vw' u, KpB w' base b t vr vw' rs (us ++ [u]) (zs ++ [(xs, n0)]) ∧ Tk base b wc w' := by
  obtain ⟨va, vc, rfl⟩ := sl_form h.wr
  have H : Hid (KpB wc base b t vr (.slice va us.length vc) rs us zs) := h
  have hcp := own_cap own
  have hgl := hcp.2.1
  have hcap : xs.length + 1 ≤ cap := hcp.2.2.1
  have hcm : cap ≤ 9223372036854775807 := hcp.2.2.2.1
  have h0 : wc.cell? ⟨g, 0, none⟩ = some (.int .i64 n0) := hcp.2.2.2.2.1 0 _ rfl
  obtain ⟨A, hA, HAD⟩ : ∃ A : Addr, (if cap = 1 then some (⟨g, 0, none⟩ : Addr) else some ⟨g, 1, none⟩) = some A ∧ Hid (A.block = g ∧ (xs ≠ [] → A = ⟨g, 1, none⟩)) := by
    by_cases h1 : cap = 1
    · exact ⟨⟨g, 0, none⟩, by simp [h1], rfl, fun hx => absurd (List.eq_nil_of_length_eq_zero (by omega)) hx⟩
    · exact ⟨⟨g, 1, none⟩, by simp [h1], rfl, fun _ => rfl⟩
  have HRD : Hid (Rd wc (.slice (some A) xs.length (cap - 1)) xs) := by
    show Rd _ _ _
    by_cases hx : xs = []
    · exact Or.inl ⟨hx, some A, cap - 1, by rw [hx]; rfl⟩
    · rw [HAD.out.2 hx]
      refine Or.inr ⟨g, 1, cap - 1, rfl, by omega, by have : maxLen = 9223372036854775807 := rfl; omega, hgl, fun i x hi => ?_⟩
      have := hcp.2.2.2.2.1 (i + 1) (.int .i64 x) (ints_at (by simpa using hi))
      rwa [Nat.add_comm] at this
  have HGT : Hid (∃ cur fz, wc.heap[g]? = some (.cells cur 3 fz)) := by
    show ∃ cur fz, _
    rcases own.2 with ⟨h1, _⟩ | ⟨g', cap', cur, h1, _, h4, _⟩
    · cases h1
    · injection h1 with e1
      injection e1 with e1
      injection e1 with e1
      subst e1
      exact ⟨cur, _, h4⟩
  have hgb : base ≤ g := hcp.1
  have hblc : b < wc.heap.size := Nat.lt_of_lt_of_le h.lt h.le
  have c9 := h.c2
  have k9 := h.f2
  have HG : Hid (∀ k, (Value.slice va us.length vc).ownBlock = some k → k ≠ g) := fun k hk e => by
    subst e
    obtain ⟨cur, fz, hg4⟩ := HGT.out
    rcases H.out.wr.2 with ⟨h1, _⟩ | ⟨g', cap', cur', h1, _, h4, _⟩
    · rw [h1] at hk; cases hk
    · rw [h1] at hk
      obtain rfl := Option.some.inj hk
      rw [show wc.heap[g']? = _ from h4] at hg4
      cases hg4
  have hbase := h.lt
  have HA : Hid (∀ W : World, (∀ k, k < wc.heap.size → (∀ j, (Value.slice va us.length vc).ownBlock = some j → j = k → False) → W.heap[k]? = wc.heap[k]?) → (∀ k, (Value.slice va us.length vc).ownBlock = some k → base ≤ k ∧ k < wc.heap.size) → W.cell? ⟨b, 2, none⟩ = some (.slice va us.length vc) ∧ W.cell? ⟨g, 0, none⟩ = some (.int .i64 n0)) := fun W hW hcr => by
    have hb := hW b hblc (fun j h1 h2 => by have := hcr j h1; omega)
    have hs := hW g hgl (fun j h1 h2 => HG.out j h1 h2)
    exact ⟨(World.cell?_of_block (w := wc) (w' := W) (a := ⟨b, 2, none⟩) hb).trans c9, (World.cell?_of_block (w := wc) (w' := W) (a := ⟨g, 0, none⟩) hs).trans h0⟩
  have HQ : Hid (∀ W : World, Below wc.heap.size wc W → W.cell? ⟨b, 2, none⟩ = some (.slice va us.length vc) ∧ W.cell? ⟨g, 0, none⟩ = some (.int .i64 n0)) := fun W hb => HA.out W (fun k hk _ => hb.block k hk) (fun k hk => H.out.wr.lt k hk)
  have hA2 : Below wc.heap.size wc wc := Below.refl _ _
  have h1c : (1 : Int) ≤ (xs.length : Int) + 1 := by omega
  clear h own hcp h0 hbase
  unfold snWireW
  go_enter Tryz.func76, Tryz.ntmps76
  go_upto_region 9 with fail
  refine wp_region_popped (fun W : World => W.cell? ⟨b, 2, none⟩ = some (.slice va us.length vc) ∧ W.cell? ⟨g, 0, none⟩ = some (.int .i64 n0)) (by kernel_rfl) rfl (by decide +kernel) (HQ.out _ (Below.refl _ _).drew) (fun hHeld => ?_)
  simp only [List.pop_toArray, List.dropLast_cons_cons, List.dropLast_singleton, List.size_toArray, List.length_cons, List.length_nil, Nat.reduceAdd, Array.replicate_succ, Array.replicate_zero, List.push_toArray, List.nil_append, List.cons_append]
  have bD : Below wc.heap.size wc wc.drew := hA2.drew
  have qD : Below wc.heap.size wc wc.drew := (Below.refl _ _).drew
  generalize wc.drew = wD at bD qD hHeld ⊢
  refine wpAnyH_take (i := 0) (v := ?_) rfl (by decide +kernel) (by decide +kernel) (by decide +kernel) (fun _ _ _ h => h) (Or.inl ⟨by rfl, ?_⟩) (by assumption) ?_
  rotate_left
  · intro W hSw
    try dsimp only at hSw
    obtain ⟨hS0, hS1⟩ := hSw
    go_simp
    try with_reducible rfl
  simp only [Act.put, List.setIfInBounds_toArray, List.set_cons_zero]
  refine wpAnyH_take (i := 1) (v := ?_) rfl (by decide +kernel) (by decide +kernel) (by decide +kernel) (fun _ _ _ h => h) (Or.inl ⟨by rfl, ?_⟩) (by assumption) ?_
  rotate_left
  · intro W hSw
    try dsimp only at hSw
    obtain ⟨hS0, hS1⟩ := hSw
    go_simp
    try with_reducible rfl
  simp only [Act.put, List.setIfInBounds_toArray, List.set_cons_zero, List.set_cons_succ]
  refine wpAnyH_take (i := 2) (v := ?_) rfl (by decide +kernel) (by decide +kernel) (by decide +kernel) (fun _ _ _ h => h) (Or.inl ⟨by rfl, ?_⟩) (by assumption) ?_
  rotate_left
  · intro W hSw
    try dsimp only at hSw
    obtain ⟨hS0, hS1⟩ := hSw
    go_simp
    try with_reducible rfl
  simp only [Act.put, List.setIfInBounds_toArray, List.set_cons_zero, List.set_cons_succ]
  refine wpAnyH_take (i := 3) (v := ?_) rfl (by decide +kernel) (by decide +kernel) (by decide +kernel) (fun _ _ _ h => h) (Or.inl ⟨by rfl, ?_⟩) (by assumption) ?_
  rotate_left
  · intro W hSw
    try dsimp only at hSw
    obtain ⟨hS0, hS1⟩ := hSw
    go_simp
    try with_reducible rfl
  simp only [Act.put, List.setIfInBounds_toArray, List.set_cons_zero, List.set_cons_succ]
  refine wpAnyH_take (i := 4) (v := ?_) rfl (by decide +kernel) (by decide +kernel) (by decide +kernel) (fun _ _ _ h => h) (Or.inl ⟨by rfl, ?_⟩) (by assumption) ?_
  rotate_left
  · intro W hSw
    try dsimp only at hSw
    obtain ⟨hS0, hS1⟩ := hSw
    go_simp
    try with_reducible rfl
  simp only [Act.put, List.setIfInBounds_toArray, List.set_cons_zero, List.set_cons_succ]
  refine wpAnyH_take (i := 5) (v := ?_) rfl (by decide +kernel) (by decide +kernel) (by decide +kernel) (fun _ _ _ h => h) (Or.inl ⟨by rfl, ?_⟩) (by assumption) ?_
  rotate_left
  · intro W hSw
    try dsimp only at hSw
    obtain ⟨hS0, hS1⟩ := hSw
    go_simp
    try with_reducible rfl
  simp only [Act.put, List.setIfInBounds_toArray, List.set_cons_zero, List.set_cons_succ]
  refine wpAnyH_take (i := 6) (v := ?_) rfl (by decide +kernel) (by decide +kernel) (by decide +kernel) (fun _ _ _ h => h) (Or.inl ⟨by rfl, ?_⟩) (by assumption) ?_
  rotate_left
  · intro W hSw
    try dsimp only at hSw
    obtain ⟨hS0, hS1⟩ := hSw
    go_simp
    try with_reducible rfl
  simp only [Act.put, List.setIfInBounds_toArray, List.set_cons_zero, List.set_cons_succ]
  refine wpAnyH_take (i := 7) (v := ?_) rfl (by decide +kernel) (by decide +kernel) (by decide +kernel) (fun _ _ _ h => h) (Or.inl ⟨by rfl, ?_⟩) (by assumption) ?_
  rotate_left
  · intro W hSw
    try dsimp only at hSw
    obtain ⟨hS0, hS1⟩ := hSw
    go_simp
    try with_reducible rfl
  simp only [Act.put, List.setIfInBounds_toArray, List.set_cons_zero, List.set_cons_succ]
  refine wpAnyH_take (i := 8) (v := ?_) rfl (by decide +kernel) (by decide +kernel) (by decide +kernel) (fun _ _ _ h => h) (Or.inl ⟨by rfl, ?_⟩) (by assumption) ?_
  rotate_left
  · intro W hSw
    try dsimp only at hSw
    obtain ⟨hS0, hS1⟩ := hSw
    go_simp
    try with_reducible rfl
  simp only [Act.put, List.setIfInBounds_toArray, List.set_cons_zero, List.set_cons_succ]
  refine wpAnyH_take (i := 9) (v := ?_) rfl (by decide +kernel) (by decide +kernel) (by decide +kernel) (fun _ _ _ h => h) (Or.inl ⟨by rfl, ?_⟩) (by assumption) ?_
  rotate_left
  · intro W hSw
    try dsimp only at hSw
    obtain ⟨hS0, hS1⟩ := hSw
    go_simp
    try with_reducible rfl
  simp only [Act.put, List.setIfInBounds_toArray, List.set_cons_zero, List.set_cons_succ]
  refine wpAnyH_take (i := 10) (v := ?_) rfl (by decide +kernel) (by decide +kernel) (by decide +kernel) (fun _ _ _ h => h) (Or.inl ⟨by rfl, ?_⟩) (by assumption) ?_
  rotate_left
  · intro W hSw
    try dsimp only at hSw
    obtain ⟨hS0, hS1⟩ := hSw
    go_simp
    try with_reducible rfl
  simp only [Act.put, List.setIfInBounds_toArray, List.set_cons_zero, List.set_cons_succ]
  refine wpAnyH_ready (rs := [11]) (by decide +kernel) (by simp) ?_
  refine AllReadyH.cons (o := _) rfl (fun K hK => ?_) AllReadyH.nil
  go_simp
  have b9 : Below wc.heap.size wc (wD.alloc (.cells #[.slice (some A) xs.length (cap - 1), .int .i64 n0] 100)) := bD.alloc bD.size _
  have q9 : Below wc.heap.size wc (wD.alloc (.cells #[.slice (some A) xs.length (cap - 1), .int .i64 n0] 100)) := qD.alloc qD.size _
  refine hK.out _ _ (HQ.out _ q9) (fun hHeld => ?_)
  clear hK K
  simp only [List.setIfInBounds_toArray, List.set_cons_zero, List.set_cons_succ]
  refine wpAnyH_ready (rs := [12]) (by decide +kernel) (by simp) ?_
  refine AllReadyH.cons (o := _) rfl (fun K hK => ?_) AllReadyH.nil
  obtain ⟨iT, hiT, hz1, hz2, hz3⟩ := info3 infoHd
  have H9 := H.out.below b9
  have HT9 : Hid _ := Tk.of_below b9 H.out.le H.out.lt
  obtain ⟨v2, wa, hra, hown9, hgr9, hnw9⟩ := run_append_at (P := Tryz.prog) (wD.alloc (.cells #[.slice (some A) xs.length (cap - 1), .int .i64 n0] 100)) 96 96 base 100 iT _ 2 32 (by kernel_rfl) hiT hz1 hz2 hz3 rfl (by decide) (Value.slice va us.length vc) us.length (hdCells us) H9.wr ⟨wD.heap.size, 0, none⟩ 1 1 [.slice (some A) xs.length (cap - 1), .int .i64 n0] rfl (hd_new rfl _ _ _) (hd_one' _ _ _ _) (by have : maxLen = 9223372036854775807 := rfl; omega) (by omega) H9.le
  clear hiT hz1 hz2 hz3
  obtain ⟨rg, rk, rfl⟩ : ∃ g cap, v2 = .slice (some ⟨g, 0, none⟩) (us.length + 1) cap := own_succ hown9
  have hcr : ∀ k, (Value.slice va us.length vc).ownBlock = some k → base ≤ k ∧ k < wc.heap.size := fun k hk => H.out.wr.lt k hk
  have HQ9 : Hid (wa.cell? ⟨b, 2, none⟩ = some (.slice va us.length vc) ∧ wa.cell? ⟨g, 0, none⟩ = some (.int .i64 n0)) := HA.out wa (fun k hk hk2 => (hgr9.block k (Nat.lt_of_lt_of_le hk q9.size) (fun e => hk2 k e.symm rfl)).trans (q9.block k hk)) hcr
  have hbb : wa.heap[b]? = wc.heap[b]? := (hgr9.block b (Nat.lt_of_lt_of_le hblc q9.size) (fun e => by have := hcr b e.symm; have := H.out.lt; omega)).trans (q9.block b hblc)
  have s10 : wa.cell? ⟨b, 2, none⟩ = some (Value.slice va us.length vc) := (World.cell?_of_block (w := wc) (a := ⟨b, 2, none⟩) hbb).trans c9
  have f10 : wa.frozen? ⟨b, 2, none⟩ = false := (World.frozen?_of_block (w := wc) (a := ⟨b, 2, none⟩) hbb).trans k9
  have HR9 := H9.wire (.slice (some A) xs.length (cap - 1), n0) (xs, n0) rfl (HRD.out.all b9) (fun k hk => by cases hk; rw [HAD.out.1]; exact ⟨hgb, by obtain ⟨cur, fz, hg4⟩ := HGT.out; exact ⟨cur, fz, (b9.block g hgl).trans hg4⟩⟩) hgr9 hown9
  have HF : Hid _ := HR9
  clear HR9
  refine step_append_eq rfl (.tmp 71) (.tmp 78) 96 rfl (Value.slice va us.length vc) (.slice (some ⟨wD.heap.size, 0, none⟩) 1 1) rfl rfl (.slice (some ⟨rg, 0, none⟩) (us.length + 1) rk) wa hra ?_
  refine hK.out _ _ HQ9.out (fun hHeld => ?_)
  clear hK K
  simp only [Act.put, List.setIfInBounds_toArray, List.set_cons_zero, List.set_cons_succ]
  refine wpAnyH_take (i := 13) (v := ?_) rfl (by decide +kernel) (by decide +kernel) (by decide +kernel) (fun _ _ _ h => h) (Or.inl ⟨by rfl, ?_⟩) (by assumption) ?_
  rotate_left
  · intro W hSw
    try dsimp only at hSw
    obtain ⟨hS0, hS1⟩ := hSw
    go_simp
    try with_reducible rfl
  simp only [Act.put, List.setIfInBounds_toArray, List.set_cons_zero, List.set_cons_succ]
  refine wpAnyH_take (i := 14) (v := ?_) rfl (by decide +kernel) (by decide +kernel) (by decide +kernel) (fun _ _ _ h => h) (Or.inl ⟨by rfl, ?_⟩) (by assumption) ?_
  rotate_left
  · intro W hSw
    try dsimp only at hSw
    obtain ⟨hS0, hS1⟩ := hSw
    go_simp
    try with_reducible rfl
  simp only [Act.put, List.setIfInBounds_toArray, List.set_cons_zero, List.set_cons_succ]
  refine wpAnyH_done (by decide +kernel) ?_ _
  show Oper.wp _ _ _ _ _ _
  go_simp
  clear hra hown9 hgr9 hnw9 hHeld b9 q9 H9 bD qD hbb hcr HQ9
  go_wp2
  go_ret
  exact ⟨rfl, _, _, HF.out.1, HT9.out.trans HF.out.2⟩
end Go.Proofs.YtajfgmlockjmhaiGreatDoor
