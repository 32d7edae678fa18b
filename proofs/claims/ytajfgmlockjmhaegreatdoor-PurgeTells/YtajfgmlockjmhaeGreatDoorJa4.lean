/-
  GClone, RdL, KerC, PgHas, RPurge2, StRow, StL, SgtCR, PTells, RefFrame, SgtRunG: joined into one text.
-/
import Derived.Test.YtajfgmlockjmhaeGreatDoorJa3
import Derived.Deep.RegionLaw
import Derived.Deep.RegionWith
import Derived.Lib.SliceRun
import Derived.Test.YtajfgmlockjmhaeGreatDoorJa2
import Derived.Test.YtajfgmlockjmhaeGreatDoorJa1
import Derived.Deep.MidRow
import Derived.BigQuiet
import Derived.Deep.CutRange
import Derived.Deep.CutBlock
import Derived.Deep.RegionHeld3
import Derived.RangeFuncNested
import Derived.Deep.QuietTactic
import Derived.WalkSmall
namespace Go.Proofs.YtajfgmlockjmhaeGreatDoor
open Go.RowKit

set_option maxRecDepth 100000 in
set_option maxHeartbeats 4000000 in
theorem clone_sp_nil (cap : Nat) (w : World) : Calls Tryz.prog 33 #[.slice none 0 cap] w fun e w' => e = .returned (.slice none 0 0) ∧ w' = w := by
  have q : ∀ (w : World) (a : Option Addr) (n c n' c' : Nat), (binOp .eql 23 (.slice a n c) (.slice none n' c')).run Tryz.prog w = .ok (.bool a.isNone) w := fun w a n c n' c' => Lib.run_eql_slice_nil w _ _ a n c n' c' Tryz.underlying23
  go_enter Tryz.func33, Tryz.ntmps33
  go_wp2
  go_ret
  exact ⟨rfl, rfl⟩
set_option maxRecDepth 100000 in
set_option maxHeartbeats 4000000 in
theorem clone_sp_some (ad : Addr) (cap : Nat) (l : List (Int × Int × Int)) (w : World) (hx : l.length ≤ 1000) (hc : ∀ j u, (spCells l)[j]? = some u → w.cell? (ad.add j) = some u) :
    Calls Tryz.prog 33 #[.slice (some ad) l.length cap] w fun e w' => ∃ v', e = .returned v' ∧ w'.ownsRow w.heap.size 47 3 v' l.length (spCells l) ∧ Below w.heap.size w w' := by
  obtain ⟨ii, hi, hz0, hz1, hz2⟩ := info_parts infoSp
  have q : ∀ (w : World) (a : Option Addr) (n c n' c' : Nat), (binOp .eql 23 (.slice a n c) (.slice none n' c')).run Tryz.prog w = .ok (.bool a.isNone) w := fun w a n c n' c' => Lib.run_eql_slice_nil w _ _ a n c n' c' Tryz.underlying23
  have HC : Hid (∀ j u, (spCells l)[j]? = some u → w.cell? (ad.add j) = some u) := hc
  clear hc
  go_enter Tryz.func33, Tryz.ntmps33
  go_wp2_with (at_builtin; refine wpList_append_at _ rfl _ _ 23 rfl w.heap.size 47 ii _ 3 24 Tryz.underlying23 hi hz0 hz1 hz2 rfl (by decide) _ _ _ rfl (World.ownsRow_made w #[] 0 (Nat.le_refl _) (Nat.zero_le _) rfl) ad l.length cap (spCells l) rfl ?c0A ?c1A ?c2A ?c3A ?c4A ?c5A ?_)
  case c0A => exact spCells_len l
  case c1A =>
    intro j u hj
    have h := HC.out j u hj
    exact (((Below.refl _ w).alloc (Nat.le_refl _) _).cell (p := ad.add j) (World.block_lt_of_cell? w _ h)).trans h
  case c2A => exact spCells_one l
  case c3A => unfold maxLen; omega
  case c4A => omega
  case c5A => simp
  intro v1 w2 own1 hg1 hat1
  clear q
  go_wp2
  go_ret
  refine ⟨v1, rfl, by simpa using own1, ((Below.refl _ w).alloc (Nat.le_refl _) _).grown hg1 (by simp) (by intro k hk; simp [Value.ownBlock] at hk; omega)⟩
theorem clone_sps (l : List S3) (v : Value) (w : World) (h : Sps w v l) (hx : l.length ≤ 1000) :
    Calls Tryz.prog 33 #[v] w fun e w' => ∃ v', e = .returned v' ∧ w'.ownsRow w.heap.size 47 3 v' l.length (spCells l) ∧ Below w.heap.size w w' := by
  rcases h with ⟨rfl, ao, cap, rfl⟩ | ⟨b, off, cap, rfl, hcap, hlt, hc⟩
  · cases ao with
    | none =>
      refine (clone_sp_nil cap w).mono ?_
      rintro e w' ⟨rfl, rfl⟩
      exact ⟨_, rfl, World.ownsRow_nil _ _ _ _, Below.refl _ _⟩
    | some ad => exact clone_sp_some ad cap [] w (Nat.zero_le _) (fun j u hj => by simp [spCells] at hj)
  · exact clone_sp_some ⟨b, off, none⟩ cap l w hx (trio_at l off hc)
end Go.Proofs.YtajfgmlockjmhaeGreatDoor
namespace Go.Proofs.YtajfgmlockjmhaeGreatDoor
open Go.RowKit
/-- Numbers that can be read. -/
def Rd (w : World) (v : Value) (xs : List Int) : Prop := (xs = [] ∧ ∃ ao cap, v = .slice ao 0 cap) ∨ ∃ g off cap, v = .slice (some ⟨g, off, none⟩) xs.length cap ∧ xs.length ≤ cap ∧ cap ≤ maxLen ∧ g < w.heap.size ∧ ∀ (i : Nat) x, xs[i]? = some x → w.cell? ⟨g, off + i, none⟩ = some (.int .i64 x)
theorem Rd.form {w : World} {v : Value} {xs : List Int} (h : Rd w v xs) : ∃ ao cap, v = .slice ao xs.length cap := by
  rcases h with ⟨rfl, ao, cap, rfl⟩ | ⟨g, off, cap, rfl, _⟩
  · exact ⟨_, _, rfl⟩
  · exact ⟨_, _, rfl⟩
theorem Rd.block {w w' : World} {v : Value} {xs : List Int} (h : Rd w v xs) (hb : ∀ k, k < w.heap.size → v.ownBlock = some k → w'.heap[k]? = w.heap[k]?) (hs : w.heap.size ≤ w'.heap.size) : Rd w' v xs := by
  rcases h with h | ⟨g, off, cap, rfl, h1, h1', h2, h3⟩
  · exact Or.inl h
  · exact Or.inr ⟨g, off, cap, rfl, h1, h1', by omega, fun i x hx => (World.cell?_of_block (w := w) (a := ⟨g, off + i, none⟩) (hb g h2 rfl)).trans (h3 i x hx)⟩
theorem Rd.own {w : World} {base : Nat} {v : Value} {xs : List Int} (h : w.ownsRow base 3 1 v xs.length (ints xs)) : Rd w v xs := by
  rcases row_form h with ⟨rfl, h0⟩ | ⟨g, cap, rfl⟩
  · exact Or.inl ⟨List.eq_nil_of_length_eq_zero h0, _, _, rfl⟩
  · obtain ⟨_, h2, h3, h4, h5, _, _⟩ := own_cap h
    exact Or.inr ⟨g, 0, cap, rfl, h3, h4, h2, fun i x hx => by rw [Nat.zero_add]; exact h5 i _ (ints_at hx)⟩
theorem Rd.all {w w' : World} {v : Value} {xs : List Int} (h : Rd w v xs) (hb : Below w.heap.size w w') : Rd w' v xs := by
  rcases h with h | ⟨g, off, cap, rfl, h1, h1', h2, h3⟩
  · exact Or.inl h
  · exact Or.inr ⟨g, off, cap, rfl, h1, h1', by have := hb.size; omega, fun i x hx => (hb.cell (p := ⟨g, off + i, none⟩) h2).trans (h3 i x hx)⟩
end Go.Proofs.YtajfgmlockjmhaeGreatDoor
namespace Go.Proofs.YtajfgmlockjmhaeGreatDoor
open Go.RowKit

/-- What package kernel does, in every world of a kind: K w0 w p vc vs vw k kb F: made in the world w0, of the plan p that lay there, a kernel lies at block kb; it is k, and all that it has lies in the blocks F. -/
structure KerC (G : World → Prop) where
  K : World → World → PD → Value → Value → Value → KD → Nat → List Nat → Prop
  all : ∀ w w', G w → Below w.heap.size w w' → G w'
  since : ∀ {w0 w p vc vs vw k kb F}, K w0 w p vc vs vw k kb F → Below w0.heap.size w0 w
  ge : ∀ {w0 w p vc vs vw k kb F}, K w0 w p vc vs vw k kb F → ∀ g ∈ F, w0.heap.size ≤ g ∧ g < w.heap.size
  lower : ∀ {w1 w0 w p vc vs vw k kb F}, Below w1.heap.size w1 w0 → K w0 w p vc vs vw k kb F → K w1 w p vc vs vw k kb F
  frame : ∀ {w0 w w' p vc vs vw k kb F M}, K w0 w p vc vs vw k kb F → KTouch M w w' → (∀ m ∈ M, m ∉ F ∧ w0.heap.size ≤ m) → K w0 w' p vc vs vw k kb F
  new : ∀ (p : PD) (vc vs vw : Value) (W : World), G W → Pln W vc vs vw p → plchk p = 0 → Calls Tryz.prog 39 #[plV vc p.ticks vs vw] W fun e w' => ∃ kb F, e = .returned (.tuple #[.pointer (some ⟨kb, 0, none⟩), .nilIface]) ∧ K W w' p vc vs vw (newK p) kb F
  no : ∀ (p : PD) (vc vs vw : Value) (W : World), G W → Pln W vc vs vw p → plchk p ≠ 0 → Calls Tryz.prog 39 #[plV vc p.ticks vs vw] W fun e w' => ∃ x, e = .returned (.tuple #[.pointer x, wErr (plchk p)]) ∧ Below W.heap.size W w'
  tick : ∀ {w0 W p vc vs vw k kb F}, G w0 → K w0 W p vc vs vw k kb F → plchk p = 0 → KOk p k → k.time < 100000000 → Calls Tryz.prog 41 #[.pointer (some ⟨kb, 0, none⟩)] W fun e w' => e = .returned (evA (tickK p p.spans k).2) ∧ ∃ F', K w0 w' p vc vs vw (tickK p p.spans k).1 kb F' ∧ KTouch F W w' ∧ ∀ g ∈ F', g ∈ F ∨ W.heap.size ≤ g
  state : ∀ {w0 W p vc vs vw k kb F} (r : Int), K w0 W p vc vs vw k kb F → KOk p k → plchk p = 0 → Calls Tryz.prog 40 #[.pointer (some ⟨kb, 0, none⟩), .int .i64 r] W fun e w' => e = .returned (.tuple #[stA (roomK k r), wErr (errB (noRoom k r))]) ∧ Below W.heap.size W w'
end Go.Proofs.YtajfgmlockjmhaeGreatDoor
namespace Go.Proofs.YtajfgmlockjmhaeGreatDoor
open Go.RowKit

set_option maxRecDepth 100000 in
set_option maxHeartbeats 2000000 in
theorem index_ints (xs : List Int) (x : Int) (b off cap : Nat) (w : World) (hx : xs.length ≤ 1000) (hc : ∀ (i : Nat) y, xs[i]? = some y → w.cell? ⟨b, off + i, none⟩ = some (.int .i64 y)) :
    Calls Tryz.prog 36 #[.slice (some ⟨b, off, none⟩) xs.length cap, .int .i64 x] w fun e w' => (∃ r : Int, e = .returned (.int .i64 r) ∧ decide (0 ≤ r) = xs.contains x) ∧ w' = w := by
  have HC : Hid (∀ (i : Nat) y, xs[i]? = some y → w.cell? ⟨b, off + i, none⟩ = some (.int .i64 y)) := hc
  clear hc
  go_enter Tryz.func36, Tryz.ntmps36
  go_wp2
  go_loopw [8] (fun i wr => ∃ k : Nat, k ≤ xs.length ∧ i = .int .i64 k ∧ (∀ (j : Nat) y, j < k → xs[j]? = some y → (x == y) = false) ∧ wr = w) (fun i _ => xs.length - (intOf i).toNat)
  case atStart => exact ⟨0, Nat.zero_le _, rfl, fun j y hj => by omega, rfl⟩
  case round =>
    obtain ⟨k, hk, rfl, hall, rfl⟩ := hrel
    have Hall : Hid (∀ (j : Nat) y, j < k → xs[j]? = some y → (x == y) = false) := hall
    clear hall
    by_cases hkl : k < xs.length
    · have hki : (k : Int) < (xs.length : Int) := by omega
      obtain ⟨y, hy⟩ : ∃ y, xs[k]? = some y := ⟨xs[k], List.getElem?_eq_getElem hkl⟩
      have d0 := HC.out k y hy
      have HY : Hid (xs[k]? = some y) := hy
      clear hy
      cases hxy : (x == y) with
      | false =>
        go_wp2
        go_roundw
        case rel =>
          refine ⟨k + 1, by omega, by go_num, fun j z hj hz => ?_, by trivial⟩
          by_cases hjk : j < k
          · exact Hall.out j z hjk hz
          · obtain rfl : j = k := by omega
            rw [HY.out] at hz
            obtain rfl := Option.some.inj hz
            exact hxy
        case measure => simp [intOf]; omega
      | true =>
        have HF : Hid (xs.contains x = true) := by
          show _ = _
          rw [List.contains_iff_mem]
          obtain rfl := eq_of_beq hxy
          exact List.mem_of_getElem? HY.out
        go_wp2
        go_ret
        exact ⟨⟨_, rfl, by rw [HF.out]; simp⟩, rfl⟩
    · have hki : decide ((k : Int) < (xs.length : Int)) = false := decide_eq_false (by omega)
      have hki' : decide (k < xs.length) = false := decide_eq_false (by omega)
      have HF : Hid (xs.contains x = false) := by
        show _ = _
        rw [Bool.eq_false_iff]
        intro h
        rw [List.contains_iff_mem] at h
        obtain ⟨j, hj⟩ := List.mem_iff_getElem?.1 h
        have := Hall.out j x (by have := (List.getElem?_eq_some_iff.1 hj).1; omega) hj
        simp at this
      go_wp2
      go_ret
      exact ⟨⟨_, rfl, by rw [HF.out]; decide⟩, rfl⟩
set_option maxRecDepth 100000 in
set_option maxHeartbeats 2000000 in
theorem contains_ints (xs : List Int) (x : Int) (b off cap : Nat) (w : World) (hx : xs.length ≤ 1000) (hc : ∀ (i : Nat) y, xs[i]? = some y → w.cell? ⟨b, off + i, none⟩ = some (.int .i64 y)) :
    Calls Tryz.prog 19 #[.slice (some ⟨b, off, none⟩) xs.length cap, .int .i64 x] w fun e w' => e = .returned (.bool (xs.contains x)) ∧ w' = w := by
  have h := index_ints xs x b off cap w hx hc
  obtain ⟨r, hr⟩ : ∃ r, r = xs.contains x := ⟨_, rfl⟩
  rw [← hr] at h ⊢
  clear hr hc
  go_enter Tryz.func19, Tryz.ntmps19
  go_wp2_with (go_at_call 36; refine h.mono ?_; rintro e w1 ⟨⟨q, rfl, hq⟩, rfl⟩; clear h)
  go_ret
  exact ⟨rfl, rfl⟩
end Go.Proofs.YtajfgmlockjmhaeGreatDoor
namespace Go.Proofs.YtajfgmlockjmhaeGreatDoor
open Go.RowKit

set_option maxRecDepth 100000 in
set_option maxHeartbeats 8000000 in
theorem rpurge_any (p : PD) (vc vs vw : Value) (r : Nat) (w0 w : World) (hp : plchk p = 0) (hP0 : Pln w0 vc vs vw p) (hb0 : Below w0.heap.size w0 w) (hr : r < p.code.length) :
    Calls Tryz.prog 5 #[plV vc p.ticks vs vw, .int .i64 r] w fun e w' => ∃ ic, e = .returned (plV ic p.ticks vs vw) ∧ (∀ M W', KTouch M w' W' → (∀ m ∈ M, w0.heap.size ≤ m ∧ m < w.heap.size) → Pln W' ic vs vw (purgeP p (fun i => way p.wires i r))) ∧ Below w.heap.size w w' := by
  have hP := hP0.all hb0
  have hs0 := hb0.size
  obtain ⟨jj, hj, hy0, hy1, hy2⟩ := info_parts infoOps
  obtain ⟨ca, cc, rfl⟩ := hP.code.form
  obtain ⟨sa, sc, rfl⟩ := hP.spans.form
  obtain ⟨wa, wc', rfl⟩ := hP.wires.form
  obtain ⟨hc5, hc0, hfz, hwz, _, _, hcz, _⟩ := plchk_zero hp
  have hok := wschk_ok hwz
  have hr5 : r < 5 := by omega
  have HP : Hid (Pln w (.slice ca p.code.length cc) (.slice sa p.spans.length sc) (.slice wa p.wires.length wc') p) := hP
  have HP0 : Hid (Pln w0 (.slice ca p.code.length cc) (.slice sa p.spans.length sc) (.slice wa p.wires.length wc') p) := hP0
  have HB0 : Hid (Below w0.heap.size w0 w) := hb0
  have HW : Hid (∀ W, Below w.heap.size w W → Calls Tryz.prog 15 #[.slice wa p.wires.length wc'] W fun e w' => e = .returned (.agg (wayCells p.wires).toArray) ∧ Below W.heap.size W w') := fun W hb => ways_any p.wires _ W (hP.wires.all hb) hok.1 hok.2
  have HNE : Hid (∀ c ∈ p.code, c ≠ []) := fun c hc e => (chk_zero (codesE_zero hcz c hc)).1 (by rw [e]; rfl)
  unfold plV
  clear hP hP0 hb0 hok hwz hcz hfz
  have hA1 : Below w.heap.size w (w.alloc (.cells #[.slice ca p.code.length cc, .int .i64 p.ticks, .slice sa p.spans.length sc, .slice wa p.wires.length wc'] 26)) := (Below.refl _ _).alloc (Nat.le_refl _) _
  have hA2 : Below (w.heap.size + 2) ((w.alloc (.cells #[.slice ca p.code.length cc, .int .i64 p.ticks, .slice sa p.spans.length sc, .slice wa p.wires.length wc'] 26)).alloc (.cells #[.slice none 0 0, .int .i64 0, .slice none 0 0, .slice none 0 0] 26)) ((w.alloc (.cells #[.slice ca p.code.length cc, .int .i64 p.ticks, .slice sa p.spans.length sc, .slice wa p.wires.length wc'] 26)).alloc (.cells #[.slice none 0 0, .int .i64 0, .slice none 0 0, .slice none 0 0] 26)) := Below.refl _ _
  have hAB : Below w.heap.size w ((w.alloc (.cells #[.slice ca p.code.length cc, .int .i64 p.ticks, .slice sa p.spans.length sc, .slice wa p.wires.length wc'] 26)).alloc (.cells #[.slice none 0 0, .int .i64 0, .slice none 0 0, .slice none 0 0] 26)) := hA1.alloc (by simp) _
  generalize hWA : (w.alloc (.cells #[.slice ca p.code.length cc, .int .i64 p.ticks, .slice sa p.spans.length sc, .slice wa p.wires.length wc'] 26)).alloc (.cells #[.slice none 0 0, .int .i64 0, .slice none 0 0, .slice none 0 0] 26) = WA at hA2 hAB
  have hsA : WA.heap.size = w.heap.size + 2 := by rw [← hWA]; simp
  have d0 : WA.cell? ⟨w.heap.size, 0, none⟩ = some (.slice ca p.code.length cc) := by rw [← hWA]; simp [go_sem]
  have d1 : WA.cell? ⟨w.heap.size, 1, none⟩ = some (.int .i64 p.ticks) := by rw [← hWA]; simp [go_sem]
  have d2 : WA.cell? ⟨w.heap.size, 2, none⟩ = some (.slice sa p.spans.length sc) := by rw [← hWA]; simp [go_sem]
  have d3 : WA.cell? ⟨w.heap.size, 3, none⟩ = some (.slice wa p.wires.length wc') := by rw [← hWA]; simp [go_sem]
  have HZ : Hid (WA.cell? ⟨w.heap.size + 1, 0, none⟩ = some (.slice none 0 0) ∧ WA.cell? ⟨w.heap.size + 1, 1, none⟩ = some (.int .i64 0) ∧ WA.cell? ⟨w.heap.size + 1, 2, none⟩ = some (.slice none 0 0) ∧ WA.cell? ⟨w.heap.size + 1, 3, none⟩ = some (.slice none 0 0) ∧ WA.frozen? ⟨w.heap.size + 1, 0, none⟩ = false ∧ WA.frozen? ⟨w.heap.size + 1, 1, none⟩ = false ∧ WA.frozen? ⟨w.heap.size + 1, 2, none⟩ = false ∧ WA.frozen? ⟨w.heap.size + 1, 3, none⟩ = false) := by
    rw [← hWA]
    refine ⟨?_, ?_, ?_, ?_, ?_, ?_, ?_, ?_⟩ <;> simp [go_sem]
  have q1 := HW.out WA hAB
  clear hA1 hA2
  go_enter Tryz.func5, Tryz.ntmps5
  go_upto_region 1 with fail
  clear hWA
  go_wp2_with (first
    | (go_at_call 15; refine q1.mono ?_; rintro e w1 ⟨rfl, b1⟩; clear q1)
    | (refine wpList_store_mid rfl 55 _ _ rfl w1.heap.size 0 (wayCells p.wires).toArray rfl rfl (there_new w1 55) (by kernel_rfl) (way_one p.wires) ?_; rw [show (wayCells p.wires).toArray.toList = wayCells p.wires from rfl]; have cz := fun (i : Nat) (hi : i < 5) => ways_cell w1 p.wires 55 hi hr5; have Bz := below_cells (b1.alloc b1.size (.cells z25 55)) b1.size (wayCells p.wires) 0; have sz : w1.heap.size + 1 ≤ ((w1.alloc (.cells z25 55)).setCells w1.heap.size 0 (wayCells p.wires)).heap.size := (by have := (below_cells (Below.refl w1.heap.size (w1.alloc (.cells z25 55))) (Nat.le_refl _) (wayCells p.wires) 0).size; rw [World.size_alloc] at this; exact this); unfold z25 at cz Bz sz; generalize World.setCells _ w1.heap.size 0 (wayCells p.wires) = wz at cz Bz sz ⊢; have HC : Hid (∀ (i : Nat), i < 5 → wz.cell? ⟨w1.heap.size, i * 5 + r, none⟩ = some (.bool (way p.wires i r))) := cz; clear cz; have e0 := (Bz.cell (p := ⟨w.heap.size, 0, none⟩) (show w.heap.size < WA.heap.size by omega)).trans d0; have e1 := (Bz.cell (p := ⟨w.heap.size, 1, none⟩) (show w.heap.size < WA.heap.size by omega)).trans d1; have e2 := (Bz.cell (p := ⟨w.heap.size, 2, none⟩) (show w.heap.size < WA.heap.size by omega)).trans d2; have e3 := (Bz.cell (p := ⟨w.heap.size, 3, none⟩) (show w.heap.size < WA.heap.size by omega)).trans d3; clear d0 d1 d2 d3))
  have hsw : WA.heap.size ≤ w1.heap.size := b1.size
  have hsk : wz.heap.size < (wz.alloc (.cells #[.slice none 0 0, .int .i64 p.ticks, .slice sa p.spans.length sc, .slice wa p.wires.length wc'] 26)).heap.size := by simp
  have hB2 : Below wz.heap.size wz (wz.alloc (.cells #[.slice none 0 0, .int .i64 p.ticks, .slice sa p.spans.length sc, .slice wa p.wires.length wc'] 26)) := (Below.refl _ _).alloc (Nat.le_refl _) _
  have hst : QP w0.heap.size (wz.alloc (.cells #[.slice none 0 0, .int .i64 p.ticks, .slice sa p.spans.length sc, .slice wa p.wires.length wc'] 26)) (wz.alloc (.cells #[.slice none 0 0, .int .i64 p.ticks, .slice sa p.spans.length sc, .slice wa p.wires.length wc'] 26)) p (fun i => way p.wires i r) wz.heap.size (.slice sa p.spans.length sc) (.slice wa p.wires.length wc') (.slice none 0 0) [] :=
    ⟨KTouch.refl _ _, by simp, by omega, World.alloc_heap_new _ _, World.ownsRow_nil _ _ _ _, fun i u c h => (by simp at h), fun u hu => (by cases hu), Nat.zero_le _⟩
  have HBz : Hid (Below WA.heap.size WA wz) := Bz
  replace e0 := (hB2.cell (p := ⟨w.heap.size, 0, none⟩) (show w.heap.size < wz.heap.size by omega)).trans e0
  have HC2 : Hid (∀ (i : Nat), i < 5 → (wz.alloc (.cells #[.slice none 0 0, .int .i64 p.ticks, .slice sa p.spans.length sc, .slice wa p.wires.length wc'] 26)).cell? ⟨w1.heap.size, i * 5 + r, none⟩ = some (.bool (way p.wires i r))) := fun i hi => (hB2.cell (p := ⟨w1.heap.size, _, none⟩) (show w1.heap.size < wz.heap.size by omega)).trans (HC.out i hi)
  have HB3 : Hid (Below w.heap.size w (wz.alloc (.cells #[.slice none 0 0, .int .i64 p.ticks, .slice sa p.spans.length sc, .slice wa p.wires.length wc'] 26))) := (hAB.trans (Bz.mono hAB.size)).trans (hB2.mono (by omega))
  have HZ2 : Hid (∀ j, (wz.alloc (.cells #[.slice none 0 0, .int .i64 p.ticks, .slice sa p.spans.length sc, .slice wa p.wires.length wc'] 26)).cell? ⟨w.heap.size + 1, j, none⟩ = WA.cell? ⟨w.heap.size + 1, j, none⟩ ∧ (wz.alloc (.cells #[.slice none 0 0, .int .i64 p.ticks, .slice sa p.spans.length sc, .slice wa p.wires.length wc'] 26)).frozen? ⟨w.heap.size + 1, j, none⟩ = WA.frozen? ⟨w.heap.size + 1, j, none⟩) := fun j => by
    have hb := (Bz.trans (hB2.mono (by omega)))
    exact ⟨hb.cell (p := ⟨w.heap.size + 1, j, none⟩) (show w.heap.size + 1 < WA.heap.size by omega), hb.frozen (p := ⟨w.heap.size + 1, j, none⟩) (show w.heap.size + 1 < WA.heap.size by omega)⟩
  clear hB2 HC e1 e2 e3 Bz b1
  generalize wz.alloc (.cells #[.slice none 0 0, .int .i64 p.ticks, .slice sa p.spans.length sc, .slice wa p.wires.length wc'] 26) = w2 at *
  go_loopw [7] (fun i wr => ∃ us cv, i = .int .i64 (us.length : Nat) ∧ QP w0.heap.size w2 wr p (fun i => way p.wires i r) wz.heap.size (.slice sa p.spans.length sc) (.slice wa p.wires.length wc') cv us) (fun i _ => p.code.length - (intOf i).toNat)
  case atStart => exact ⟨[], _, rfl, hst⟩
  case round =>
    clear hst
    obtain ⟨us, cv, rfl, hq⟩ := hrel
    have hlen := hq.len
    obtain ⟨vo, vn, vk, rfl⟩ := own_form hq.own
    have htk := hq.tk
    have hsr := htk.size
    have f0 : wr.cell? ⟨w.heap.size, 0, none⟩ = some (.slice ca p.code.length cc) := (World.cell?_of_block (w := w2) (a := ⟨w.heap.size, 0, none⟩) (htk.block w.heap.size (by omega) (by simp; omega))).trans e0
    by_cases hkl : us.length < p.code.length
    · have hki : (us.length : Int) < (p.code.length : Int) := by omega
      obtain ⟨cb, co, ua, un, ug, c, rfl, hclt, hcy, hcd, rfl, hops⟩ := HP0.out.code.at hkl
      have hbw0 := HB0.out
      have hbw : Below w.heap.size w wr := HB3.out.trans (htk.below (fun m hm => by rw [List.mem_singleton] at hm; omega) (by omega))
      replace hbw0 := hbw0.trans (hbw.mono hs0)
      replace hcd := (hbw0.cell (p := ⟨cb, _, none⟩) hclt).trans hcd
      have hcw : wr.cell? ⟨w1.heap.size, us.length * 5 + r, none⟩ = some (.bool (way p.wires us.length r)) := (World.cell?_of_block (w := w2) (a := ⟨w1.heap.size, _, none⟩) (htk.block w1.heap.size (by omega) (by simp; omega))).trans (HC2.out us.length (by omega))
      obtain ⟨qc, _, _, _, qf⟩ := hq.cs
      have hown0 := hq.own
      have HQ : Hid (QP w0.heap.size w2 wr p (fun i => way p.wires i r) wz.heap.size (.slice sa p.spans.length sc) (.slice wa p.wires.length wc') (.slice vo vn vk) us) := hq
      have HCY : Hid (p.code[us.length]? = some c) := hcy
      have HOP : Hid (Ops wr (.slice ua c.length ug) c) := hops.all hbw0
      have HOL : Hid (∀ g, (Value.slice ua c.length ug).ownBlock = some g → g < w0.heap.size) := hops.lt (HNE.out c (List.mem_of_getElem? hcy))
      have hr5i : (r : Int) < 5 := by omega
      have hl5i : (us.length : Int) < 5 := by omega
      have hl5 : us.length < 5 := by omega
      clear hops hcy hq htk hbw hbw0
      cases hway : way p.wires us.length r with
      | true =>
        rw [hway] at hcw
        have HWY : Hid (way p.wires us.length r = true) := hway
        clear hway
        go_wp2_with (at_builtin; refine wpList_append_at _ rfl _ _ 22 rfl w2.heap.size 51 jj _ 1 24 Tryz.underlying22 hj hy0 hy1 hy2 rfl (by decide) _ _ _ rfl (hown0.alloc _) ⟨wr.heap.size, 0, none⟩ 1 1 [.slice ua c.length ug] rfl rfl ?c1A ?c2A ?c3A ?c4A ?c5A ?_)
        case c1A => exact one_new_at rfl _ _
        case c2A => intro u hu; simp at hu; subst hu; rfl
        case c3A => unfold maxLen; omega
        case c4A => omega
        case c5A => simp; omega
        intro v1 w8 own8 hg8 hnw8
        have hk8 : w8.heap[wz.heap.size]? = wr.heap[wz.heap.size]? := (hg8.block wz.heap.size (by simp; omega) (fun e => by have := (hown0.lt wz.heap.size e.symm).1; omega)).trans (((Below.refl wr.heap.size wr).alloc (Nat.le_refl _) _).block _ (by omega))
        have s8 : w8.cell? ⟨wz.heap.size, 0, none⟩ = some (.slice vo vn vk) := (World.cell?_of_block (w := wr) (a := ⟨wz.heap.size, 0, none⟩) hk8).trans qc
        have g8 : w8.frozen? ⟨wz.heap.size, 0, none⟩ = false := (World.frozen?_of_block (w := wr) (a := ⟨wz.heap.size, 0, none⟩) hk8).trans qf
        have HM : Hid (QP w0.heap.size w2 (w8.setCell ⟨wz.heap.size, 0, none⟩ v1) p (fun i => way p.wires i r) wz.heap.size (.slice sa p.spans.length sc) (.slice wa p.wires.length wc') v1 (us ++ [.slice ua c.length ug])) := HQ.out.more HCY.out (Below.refl _ _) (by simp only [HWY.out, if_true]; exact HOP.out) (fun g hg => ⟨Or.inl (HOL.out g hg), by have := HOL.out g hg; omega⟩) hg8 own8 (fun g hg => by have := hnw8 g hg; simpa using this)
        obtain ⟨gb, cap8, rfl⟩ := own_succ own8
        clear own8 hg8 hnw8 hown0 hk8
        go_wp2
        go_roundw
        case rel => exact ⟨us ++ [.slice ua c.length ug], _, by rw [List.length_append, List.length_singleton]; go_num, HM.out⟩
        case measure => simp [intOf]; omega
      | false =>
        rw [hway] at hcw
        have HWY : Hid (way p.wires us.length r = false) := hway
        have hnk : wr.heap.size ≠ wz.heap.size := by omega
        have qc2 : (wr.alloc (.cells #[.int .i64 10, .int .i64 0, .int .i64 0] 58)).cell? ⟨wz.heap.size, 0, none⟩ = some (.slice vo vn vk) := (((Below.refl wr.heap.size wr).alloc (Nat.le_refl _) _).cell (p := ⟨wz.heap.size, 0, none⟩) (show wz.heap.size < wr.heap.size by omega)).trans qc
        clear hway
        go_wp2_with (at_builtin; refine wpList_append_at _ rfl _ _ 22 rfl w2.heap.size 51 jj _ 1 24 Tryz.underlying22 hj hy0 hy1 hy2 rfl (by decide) _ _ _ rfl ((hown0.alloc _).alloc _) ⟨wr.heap.size + 1, 0, none⟩ 1 1 [.slice (some ⟨wr.heap.size, 0, none⟩) 1 1] rfl rfl ?c1A ?c2A ?c3A ?c4A ?c5A ?_)
        case c1A => exact one_new_at (by simp) _ _
        case c2A => intro u hu; simp at hu; subst hu; rfl
        case c3A => unfold maxLen; omega
        case c4A => omega
        case c5A => simp; omega
        intro v1 w8 own8 hg8 hnw8
        have hk8 : w8.heap[wz.heap.size]? = wr.heap[wz.heap.size]? := (hg8.block wz.heap.size (by simp; omega) (fun e => by have := (hown0.lt wz.heap.size e.symm).1; omega)).trans ((((Below.refl wr.heap.size wr).alloc (Nat.le_refl _) _).alloc (by simp) _).block _ (by omega))
        have s8 : w8.cell? ⟨wz.heap.size, 0, none⟩ = some (.slice vo vn vk) := (World.cell?_of_block (w := wr) (a := ⟨wz.heap.size, 0, none⟩) hk8).trans qc
        have g8 : w8.frozen? ⟨wz.heap.size, 0, none⟩ = false := (World.frozen?_of_block (w := wr) (a := ⟨wz.heap.size, 0, none⟩) hk8).trans qf
        have HM : Hid (QP w0.heap.size w2 (w8.setCell ⟨wz.heap.size, 0, none⟩ v1) p (fun i => way p.wires i r) wz.heap.size (.slice sa p.spans.length sc) (.slice wa p.wires.length wc') v1 (us ++ [.slice (some ⟨wr.heap.size, 0, none⟩) 1 1])) := HQ.out.more HCY.out ((Below.refl _ _).alloc (Nat.le_refl _) _) (by simp only [HWY.out, Bool.false_eq_true, if_false]; exact rest_ops rfl) (fun g hg => by simp only [Value.ownBlock, Option.some.injEq] at hg; subst hg; exact ⟨Or.inr (Nat.le_refl _), by simp⟩) hg8 own8 (fun g hg => by have := hnw8 g hg; simpa using this)
        obtain ⟨gb, cap8, rfl⟩ := own_succ own8
        clear own8 hg8 hnw8 hown0 hk8
        go_wp2
        go_roundw
        case rel => exact ⟨us ++ [.slice (some ⟨wr.heap.size, 0, none⟩) 1 1], _, by rw [List.length_append, List.length_singleton]; go_num, HM.out⟩
        case measure => simp [intOf]; omega
    · have hul : us.length = p.code.length := by omega
      have hki : decide ((us.length : Int) < (p.code.length : Int)) = false := decide_eq_false (by omega)
      have hki' : decide (us.length < p.code.length) = false := decide_eq_false (by omega)
      obtain ⟨q0, q1, q2, q3, _⟩ := hq.cs
      have hbk : ∀ j, wr.cell? ⟨w.heap.size + 1, j, none⟩ = w2.cell? ⟨w.heap.size + 1, j, none⟩ ∧ wr.frozen? ⟨w.heap.size + 1, j, none⟩ = w2.frozen? ⟨w.heap.size + 1, j, none⟩ := fun j => ⟨World.cell?_of_block (w := w2) (a := ⟨w.heap.size + 1, j, none⟩) (htk.block (w.heap.size + 1) (by omega) (by simp; omega)), World.frozen?_of_block (w := w2) (a := ⟨w.heap.size + 1, j, none⟩) (htk.block (w.heap.size + 1) (by omega) (by simp; omega))⟩
      obtain ⟨z0, z1, z2, z3, y0, y1, y2, y3⟩ := HZ.out
      replace z0 := ((hbk 0).1.trans (HZ2.out 0).1).trans z0
      replace z1 := ((hbk 1).1.trans (HZ2.out 1).1).trans z1
      replace z2 := ((hbk 2).1.trans (HZ2.out 2).1).trans z2
      replace z3 := ((hbk 3).1.trans (HZ2.out 3).1).trans z3
      replace y0 := ((hbk 0).2.trans (HZ2.out 0).2).trans y0
      replace y1 := ((hbk 1).2.trans (HZ2.out 1).2).trans y1
      replace y2 := ((hbk 2).2.trans (HZ2.out 2).2).trans y2
      replace y3 := ((hbk 3).2.trans (HZ2.out 3).2).trans y3
      have hbw : Below w.heap.size w wr := HB3.out.trans (htk.below (fun m hm => by rw [List.mem_singleton] at hm; omega) (by omega))
      have HQ : Hid (QP w0.heap.size w2 wr p (fun i => way p.wires i r) wz.heap.size (.slice sa p.spans.length sc) (.slice wa p.wires.length wc') (.slice vo vn vk) us) := hq
      have hne : wz.heap.size ≠ w.heap.size + 1 := by omega
      clear hq htk hbk
      go_wp2
      refine bodyPost_ret (v := plV (.slice vo vn vk) p.ticks (.slice sa p.spans.length sc) (.slice wa p.wires.length wc')) ?_ rfl ⟨.slice vo vn vk, rfl, ?_, ?_⟩
      · simp [results, Tryz.results5, go_sem, plV, z0, z1, z2, z3]
      · intro M W' htM hM
        have htk : KTouch [w.heap.size + 1] wr ((((wr.setCell ⟨w.heap.size + 1, 0, none⟩ (.slice vo vn vk)).setCell ⟨w.heap.size + 1, 1, none⟩ (.int .i64 p.ticks)).setCell ⟨w.heap.size + 1, 2, none⟩ (.slice sa p.spans.length sc)).setCell ⟨w.heap.size + 1, 3, none⟩ (.slice wa p.wires.length wc')) :=
          (((KTouch.set wr (by simp) 0 _).trans (KTouch.set _ (by simp) 1 _)).trans (KTouch.set _ (by simp) 2 _)).trans (KTouch.set _ (by simp) 3 _)
        have htt : KTouch ((w.heap.size + 1) :: M) wr W' := (htk.mono (fun m hm => by rw [List.mem_singleton] at hm; simp [hm])).trans (htM.mono (fun m hm => by simp [hm]))
        have hMM : ∀ m ∈ (w.heap.size + 1) :: M, w0.heap.size ≤ m ∧ m < w2.heap.size := fun m hm => by
          rcases List.mem_cons.1 hm with h | h
          · omega
          · have := hM m h
            omega
        have hb4 : Below w0.heap.size w0 W' := (HB0.out.trans (hbw.mono hs0)).trans (htt.below (fun m hm => (hMM m hm).1) (by omega))
        exact ⟨HQ.out.cds hul htt hMM, HP0.out.spans.all hb4, HP0.out.wires.all hb4⟩
      · exact (((hbw.setCell (p := ⟨w.heap.size + 1, 0, none⟩) (Nat.le_succ _) _).setCell (p := ⟨w.heap.size + 1, 1, none⟩) (Nat.le_succ _) _).setCell (p := ⟨w.heap.size + 1, 2, none⟩) (Nat.le_succ _) _).setCell (p := ⟨w.heap.size + 1, 3, none⟩) (Nat.le_succ _) _
end Go.Proofs.YtajfgmlockjmhaeGreatDoor
namespace Go.Proofs.YtajfgmlockjmhaeGreatDoor
open Go.RowKit

/-- States as cells. -/
def stCells (l : List St) : List Value := l.flatMap fun s => [.int .i64 s.p, .int .i64 (s.c 0), .int .i64 (s.c 1), .int .i64 (s.c 2), .int .i64 (s.c 3), .int .i64 (s.c 4), .int .i64 (s.c 5), .bool s.f]
theorem stCells_snoc (l : List St) (s : St) : stCells (l ++ [s]) = stCells l ++ [.int .i64 s.p, .int .i64 (s.c 0), .int .i64 (s.c 1), .int .i64 (s.c 2), .int .i64 (s.c 3), .int .i64 (s.c 4), .int .i64 (s.c 5), .bool s.f] := by simp [stCells]
theorem stCells_at : ∀ (l : List St) (i : Nat) (s : St), l[i]? = some s → (stCells l)[i * 8]? = some (.int .i64 s.p) ∧ (stCells l)[i * 8 + 1]? = some (.int .i64 (s.c 0)) ∧ (stCells l)[i * 8 + 2]? = some (.int .i64 (s.c 1)) ∧ (stCells l)[i * 8 + 3]? = some (.int .i64 (s.c 2)) ∧ (stCells l)[i * 8 + 4]? = some (.int .i64 (s.c 3)) ∧ (stCells l)[i * 8 + 5]? = some (.int .i64 (s.c 4)) ∧ (stCells l)[i * 8 + 6]? = some (.int .i64 (s.c 5)) ∧ (stCells l)[i * 8 + 7]? = some (.bool s.f)
  | [], i, s, h => by simp at h
  | x :: l, 0, s, h => by simp at h; subst h; simp [stCells]
  | x :: l, i + 1, s, h => by
    have h1 := stCells_at l i s (by simpa using h)
    have e : ∀ j, (stCells (x :: l))[(i + 1) * 8 + j]? = (stCells l)[i * 8 + j]? := fun j => by
      show ([.int .i64 x.p, .int .i64 (x.c 0), .int .i64 (x.c 1), .int .i64 (x.c 2), .int .i64 (x.c 3), .int .i64 (x.c 4), .int .i64 (x.c 5), .bool x.f] ++ stCells l)[(i + 1) * 8 + j]? = _
      rw [List.getElem?_append_right (by simp; omega)]
      congr 1
      simp
      omega
    exact ⟨(e 0).trans h1.1, (e 1).trans h1.2.1, (e 2).trans h1.2.2.1, (e 3).trans h1.2.2.2.1, (e 4).trans h1.2.2.2.2.1, (e 5).trans h1.2.2.2.2.2.1, (e 6).trans h1.2.2.2.2.2.2.1, (e 7).trans h1.2.2.2.2.2.2.2⟩
theorem st_one (s : St) : ∀ u ∈ [Value.int .i64 s.p, .int .i64 (s.c 0), .int .i64 (s.c 1), .int .i64 (s.c 2), .int .i64 (s.c 3), .int .i64 (s.c 4), .int .i64 (s.c 5), .bool s.f], u.oneCell' = true := by
  intro u hu
  simp only [List.mem_cons, List.not_mem_nil, or_false] at hu
  rcases hu with rfl | rfl | rfl | rfl | rfl | rfl | rfl | rfl <;> rfl
theorem st_new {w : World} {k : Nat} (hk : k = w.heap.size) (s : St) (t : TypeId) : ∀ j u, [Value.int .i64 s.p, .int .i64 (s.c 0), .int .i64 (s.c 1), .int .i64 (s.c 2), .int .i64 (s.c 3), .int .i64 (s.c 4), .int .i64 (s.c 5), .bool s.f][j]? = some u → (w.alloc (.cells #[.int .i64 s.p, .int .i64 (s.c 0), .int .i64 (s.c 1), .int .i64 (s.c 2), .int .i64 (s.c 3), .int .i64 (s.c 4), .int .i64 (s.c 5), .bool s.f] t)).cell? ((⟨k, 0, none⟩ : Addr).add j) = some u := by
  intro j u hj
  subst hk
  rw [Addr.add_lit, Nat.zero_add]
  match j, hj with
  | 0, hj => simp at hj; subst hj; simp
  | 1, hj => simp at hj; subst hj; simp
  | 2, hj => simp at hj; subst hj; simp
  | 3, hj => simp at hj; subst hj; simp
  | 4, hj => simp at hj; subst hj; simp
  | 5, hj => simp at hj; subst hj; simp
  | 6, hj => simp at hj; subst hj; simp
  | 7, hj => simp at hj; subst hj; simp
  | j + 8, hj => simp at hj
theorem infoSt : (Tryz.prog.info? 39).map (fun i => (i.zero, i.size, i.bytes)) = some (some (.agg #[.int .i64 0, .int .i64 0, .int .i64 0, .int .i64 0, .int .i64 0, .int .i64 0, .int .i64 0, .bool false]), 8, 64) := by kernel_rfl
end Go.Proofs.YtajfgmlockjmhaeGreatDoor
namespace Go.Proofs.YtajfgmlockjmhaeGreatDoor
open Go.RowKit

/-- States in a row that can be read. -/
def StL (w : World) (v : Value) (l : List St) : Prop :=
  (l = [] ∧ ∃ ao cap, v = .slice ao 0 cap) ∨ ∃ b off cap, v = .slice (some ⟨b, off, none⟩) l.length cap ∧ l.length ≤ cap ∧ b < w.heap.size ∧ ∀ (i : Nat) s, l[i]? = some s → StC w b (off + i * 8) s
theorem StL.form {w : World} {v : Value} {l : List St} (h : StL w v l) : ∃ ao cap, v = .slice ao l.length cap := by
  rcases h with ⟨rfl, ao, cap, rfl⟩ | ⟨b, off, cap, rfl, _⟩
  · exact ⟨ao, cap, rfl⟩
  · exact ⟨_, cap, rfl⟩
theorem StL.all {w w' : World} {v : Value} {l : List St} (h : StL w v l) (hb : Below w.heap.size w w') : StL w' v l := by
  rcases h with h | ⟨b, off, cap, rfl, hcap, hlt, hc⟩
  · exact Or.inl h
  · exact Or.inr ⟨b, off, cap, rfl, hcap, Nat.lt_of_lt_of_le hlt hb.size, fun i s hi => (hc i s hi).block (hb.block b hlt)⟩
theorem StL.own {w : World} {base : Nat} {v : Value} {l : List St} (h : w.ownsRow base 39 8 v l.length (stCells l)) : StL w v l := by
  have hl := h.lt
  have hcs := @World.ownsRow.cells _ _ _ _ _ _ _ h
  rcases h.2 with ⟨rfl, h0⟩ | ⟨g, cap, cur, rfl, _, _, hcap, _⟩
  · exact Or.inl ⟨List.eq_nil_of_length_eq_zero h0, _, _, rfl⟩
  · have hat : ∀ j u, (stCells l)[j]? = some u → w.cell? ⟨g, j, none⟩ = some u := fun j u hu => by
      have := hcs rfl j u hu
      rwa [Addr.add_lit, Nat.zero_add] at this
    refine Or.inr ⟨g, 0, cap, rfl, hcap, (hl g rfl).2, fun i s hs => ?_⟩
    obtain ⟨q0, q1, q2, q3, q4, q5, q6, q7⟩ := stCells_at l i s hs
    rw [Nat.zero_add]
    exact ⟨hat _ _ q0, hat _ _ q1, hat _ _ q2, hat _ _ q3, hat _ _ q4, hat _ _ q5, hat _ _ q6, hat _ _ q7⟩
end Go.Proofs.YtajfgmlockjmhaeGreatDoor
namespace Go.Proofs.YtajfgmlockjmhaeGreatDoor
open Go.RowKit

/-- Run: the states of a room of a new kernel. -/
def SgtRun (G : World → Prop) : Prop := ∀ (p : PD) (vc vs vw : Value) (n r : Int) (W : World), G W → Pln W vc vs vw p → Calls Tryz.prog 24 #[plV vc p.ticks vs vw, .int .i64 n, .int .i64 r] W fun e w' => ∃ v, e = .returned (.tuple #[v, wErr (runE p n r)]) ∧ StL w' v (if runE p n r = 0 then statesK p n.toNat r.toNat else []) ∧ Below W.heap.size W w'
end Go.Proofs.YtajfgmlockjmhaeGreatDoor
namespace Go.Proofs.YtajfgmlockjmhaeGreatDoor
open Go.RowKit

/-- A plan that is short enough to be held against another one. -/
theorem plan_short {p : PD} (hp : plchk p = 0) : p.code.length ≤ 1000 ∧ p.spans.length ≤ 1000 ∧ p.wires.length ≤ 1000 ∧ ∀ c ∈ p.code, c.length ≤ 1000 := by
  obtain ⟨h1, _, h2, h3, _, _, h4, _⟩ := plchk_zero hp
  have h5 := (fchk_zero h2).2.2.1
  have h6 := (wschk_ok h3).1
  exact ⟨by omega, by omega, by omega, fun c hc => by have := (chk_zero (codesE_zero h4 c hc)).2.1; omega⟩
theorem prg_short (p : PD) (r : Int) : (prgP p r).code.length ≤ 1000 ∧ (prgP p r).spans.length ≤ 1000 ∧ (prgP p r).wires.length ≤ 1000 ∧ ∀ c ∈ (prgP p r).code, c.length ≤ 1000 := by
  unfold prgP
  split
  · rename_i h
    exact plan_short (purge_right _ (prgE_zero h).1)
  · exact ⟨by simp [noPlan], by simp [noPlan], by simp [noPlan], fun c hc => by simp [noPlan] at hc⟩
set_option maxRecDepth 100000 in
set_option maxHeartbeats 16000000 in
theorem ptells_of {G : World → Prop} (hall : ∀ w w', G w → Below w.heap.size w w' → G w') (P : PrgPurge G) (S : PrgSame G) (hE : ∀ (e : Int) (W : World), G W → Calls Tryz.prog 7 #[wErr e, .int .i64 e] W fun r w' => r = .returned (.bool true) ∧ Below W.heap.size W w')
    (hR : ∀ (p : PD) (vc vs vw : Value) (W : World), Pln W vc vs vw p → Calls Tryz.prog 4 #[plV vc p.ticks vs vw] W fun e w' => e = .returned (.int .i64 (plchk p)) ∧ Below W.heap.size W w')
    (hPu : ∀ (p : PD) (vc vs vw : Value) (r : Nat) (w0 w : World), plchk p = 0 → Pln w0 vc vs vw p → Below w0.heap.size w0 w → r < p.code.length → Calls Tryz.prog 5 #[plV vc p.ticks vs vw, .int .i64 r] w fun e w' => ∃ ic, e = .returned (plV ic p.ticks vs vw) ∧ (∀ M W', KTouch M w' W' → (∀ m ∈ M, w0.heap.size ≤ m ∧ m < w.heap.size) → Pln W' ic vs vw (purgeP p (fun i => way p.wires i r))) ∧ Below w.heap.size w w')
    (hSt : ∀ (p : PD) (vc vs vw : Value) (n r : Nat) (w : World), plchk p = 0 → Pln w vc vs vw p → n ≤ 2000 → r < p.code.length → Calls Tryz.prog 9 #[plV vc p.ticks vs vw, .int .i64 n, .int .i64 r] w fun e w' => ∃ v, e = .returned v ∧ StL w' v (statesK p n r) ∧ Below w.heap.size w w')
    (p q : PD) (vc vs vw ic is iw : Value) (n r : Int) (w : World) (hG : G w) (hP : Pln w vc vs vw p) (hQ : Pln w ic is iw q) :
    Calls Tryz.prog 3 #[plV vc p.ticks vs vw, plV ic q.ticks is iw, .int .i64 n, .int .i64 r] w fun e w' => e = .returned (.bool true) ∧ Below w.heap.size w w' := by
  obtain ⟨ca, cc, rfl⟩ := hP.code.form
  obtain ⟨sa, sc, rfl⟩ := hP.spans.form
  obtain ⟨wa, wc', rfl⟩ := hP.wires.form
  obtain ⟨xa, xc, rfl⟩ := hQ.code.form
  obtain ⟨ya, yc, rfl⟩ := hQ.spans.form
  obtain ⟨za, zc', rfl⟩ := hQ.wires.form
  have hx0 := Bxt.first w (.slice ca p.code.length cc) p.ticks (.slice sa p.spans.length sc) (.slice wa p.wires.length wc') (.slice xa q.code.length xc) q.ticks (.slice ya q.spans.length yc) (.slice za q.wires.length zc')
  have HP : Hid (Pln w (.slice ca p.code.length cc) (.slice sa p.spans.length sc) (.slice wa p.wires.length wc') p) := hP
  have HQ : Hid (Pln w (.slice xa q.code.length xc) (.slice ya q.spans.length yc) (.slice za q.wires.length zc') q) := hQ
  have HG : Hid (∀ W, Below w.heap.size w W → G W) := fun W hb => hall w W hG hb
  have HE : Hid (∀ (e : Int) (W : World), Below w.heap.size w W → Calls Tryz.prog 7 #[wErr e, .int .i64 e] W fun r w' => r = .returned (.bool true) ∧ Below W.heap.size W w') := fun e W hb => hE e W (HG.out W hb)
  have HRp : Hid (∀ W, Below w.heap.size w W → Calls Tryz.prog 4 #[.agg #[.slice ca p.code.length cc, .int .i64 p.ticks, .slice sa p.spans.length sc, .slice wa p.wires.length wc']] W fun e w' => e = .returned (.int .i64 (plchk p)) ∧ Below W.heap.size W w') := fun W hb => hR p _ _ _ W (HP.out.all hb)
  have HRq : Hid (∀ W, Below w.heap.size w W → Calls Tryz.prog 4 #[.agg #[.slice xa q.code.length xc, .int .i64 q.ticks, .slice ya q.spans.length yc, .slice za q.wires.length zc']] W fun e w' => e = .returned (.int .i64 (plchk q)) ∧ Below W.heap.size W w') := fun W hb => hR q _ _ _ W (HQ.out.all hb)
  unfold plV
  clear hP hQ hG hE hR
  go_enter Tryz.func3, Tryz.ntmps3
  go_upto_region 1 with fail
  generalize hWA : (w.alloc (.cells #[.slice ca p.code.length cc, .int .i64 p.ticks, .slice sa p.spans.length sc, .slice wa p.wires.length wc'] 26)).alloc (.cells #[.slice xa q.code.length xc, .int .i64 q.ticks, .slice ya q.spans.length yc, .slice za q.wires.length zc'] 26) = WA at hx0 ⊢
  clear hWA
  go_cut [26] from 21 to 25 (fun s26 wx => s26 = .bool (decide (200 < n ∧ n ≤ 2000)) ∧ wx = WA)
  case first =>
    by_cases h1 : 200 < n
    · by_cases h2 : n ≤ 2000
      · have h2' : decide (n ≤ 2000) = true := decide_eq_true h2
        have h1' : decide (200 < n) = true := decide_eq_true h1
        have HX : Hid (decide (200 < n ∧ n ≤ 2000) = true) := decide_eq_true ⟨h1, h2⟩
        go_wp2_with fail
        go_meet
        case rel => exact ⟨by rw [HX.out], rfl⟩
      · have h2' : decide (n ≤ 2000) = false := decide_eq_false h2
        have h1' : decide (200 < n) = true := decide_eq_true h1
        have HX : Hid (decide (200 < n ∧ n ≤ 2000) = false) := decide_eq_false (fun e => h2 e.2)
        go_wp2_with fail
        go_meet
        case rel => exact ⟨by rw [HX.out], rfl⟩
    · have h1' : decide (200 < n) = false := decide_eq_false h1
      have HX : Hid (decide (200 < n ∧ n ≤ 2000) = false) := decide_eq_false (fun e => h1 e.1)
      go_wp2_with fail
      go_meet
      case rel => exact ⟨by rw [HX.out], rfl⟩
  case rest =>
  obtain ⟨rfl, hwx⟩ := hcut
  rw [hwx]
  clear hwx
  go_step
  go_cut [2] from 26 to 28 (fun s2 wx => s2 = .int .i64 (nnP n) ∧ wx = WA)
  case first =>
    by_cases h0 : 200 < n ∧ n ≤ 2000
    · have HX : Hid (nnP n = n % 200) := by show _ = _; unfold nnP; rw [if_pos h0]
      have hd : decide (200 < n ∧ n ≤ 2000) = true := decide_eq_true h0
      rw [hd]
      clear hd
      obtain ⟨h1, h2⟩ := h0
      go_wp2_with fail
      go_meet
      case rel => exact ⟨by rw [HX.out], rfl⟩
    · have HX : Hid (nnP n = n) := by show _ = _; unfold nnP; rw [if_neg h0]
      have hd : decide (200 < n ∧ n ≤ 2000) = false := decide_eq_false h0
      rw [hd]
      clear h0 hd
      go_wp2_with fail
      go_meet
      case rel => exact ⟨by rw [HX.out], rfl⟩
  case rest =>
  obtain ⟨rfl, hwx⟩ := hcut
  rw [hwx]
  clear hwx
  generalize nnP n = nn at *
  clear n
  have hc := hx0.cs
  obtain ⟨k0, k1, k2, k3⟩ := hc
  have q1 := HRp.out WA hx0.below
  have HF := prgE_two p r
  have HFE : Hid (prgE p r = if plchk p = 0 ∧ (r < 0 ∨ (p.code.length : Int) ≤ r) then 1 else plchk p) := HF
  clear HF
  obtain ⟨z, hz⟩ : ∃ z, plchk p = z := ⟨_, rfl⟩
  have HZ : Hid (plchk p = z) := hz
  rw [hz] at q1 HFE
  clear hz
  go_upto_region 5 with (go_at_call 4; refine q1.mono ?_; rintro e w1 ⟨rfl, b1⟩; clear q1)
  have hx1 := hx0.step b1
  clear b1 hx0 k0 k1 k2 k3
  obtain ⟨k0, k1, k2, k3⟩ := hx1.cs
  go_cut [44] from 32 to 43 (fun s44 wx => s44 = .bool (decide (z = 0 ∧ (r < 0 ∨ (p.code.length : Int) ≤ r))) ∧ wx = w1)
  case first =>
    by_cases h0 : z = 0
    · have h0' : (z == 0) = true := by simpa using h0
      by_cases h1 : r < 0
      · have h1' : decide (r < 0) = true := decide_eq_true h1
        have HX : Hid (decide (z = 0 ∧ (r < 0 ∨ (p.code.length : Int) ≤ r)) = true) := decide_eq_true ⟨h0, Or.inl h1⟩
        clear h0
        go_wp2_with fail
        go_meet
        case rel => exact ⟨by rw [HX.out], rfl⟩
      have h1' : decide (r < 0) = false := decide_eq_false h1
      by_cases h2 : (p.code.length : Int) ≤ r
      · have h2' : decide ((p.code.length : Int) ≤ r) = true := decide_eq_true h2
        have HX : Hid (decide (z = 0 ∧ (r < 0 ∨ (p.code.length : Int) ≤ r)) = true) := decide_eq_true ⟨h0, Or.inr h2⟩
        clear h0
        go_wp2_with fail
        go_meet
        case rel => exact ⟨by rw [HX.out], rfl⟩
      have h2' : decide ((p.code.length : Int) ≤ r) = false := decide_eq_false h2
      have HX : Hid (decide (z = 0 ∧ (r < 0 ∨ (p.code.length : Int) ≤ r)) = false) := decide_eq_false (fun e => by omega)
      clear h0
      go_wp2_with fail
      go_meet
      case rel => exact ⟨by rw [HX.out], rfl⟩
    · have h0' : (z == 0) = false := by simpa using h0
      have HX : Hid (decide (z = 0 ∧ (r < 0 ∨ (p.code.length : Int) ≤ r)) = false) := decide_eq_false (fun e => h0 e.1)
      clear h0
      go_wp2_with fail
      go_meet
      case rel => exact ⟨by rw [HX.out], rfl⟩
  case rest =>
  obtain ⟨rfl, hwx⟩ := hcut
  rw [hwx]
  clear hwx
  go_step
  go_cut [10] from 44 to 44 (fun s10 wx => s10 = .int .i64 (prgE p r) ∧ wx = w1)
  case first =>
    by_cases h0 : z = 0 ∧ (r < 0 ∨ (p.code.length : Int) ≤ r)
    · have HX : Hid (prgE p r = 1) := by show _ = _; rw [HFE.out, if_pos h0]
      have hd : decide (z = 0 ∧ (r < 0 ∨ (p.code.length : Int) ≤ r)) = true := decide_eq_true h0
      rw [hd]
      clear h0 hd
      go_wp2_with fail
      go_meet
      case rel => exact ⟨by rw [HX.out], rfl⟩
    · have HX : Hid (prgE p r = z) := by show _ = _; rw [HFE.out, if_neg h0]
      have hd : decide (z = 0 ∧ (r < 0 ∨ (p.code.length : Int) ≤ r)) = false := decide_eq_false h0
      rw [hd]
      clear h0 hd
      go_wp2_with fail
      go_meet
      case rel => exact ⟨by rw [HX.out], rfl⟩
  case rest =>
  obtain ⟨rfl, hwx⟩ := hcut
  rw [hwx]
  clear hwx HFE
  go_upto_region 8 with fail
  obtain ⟨f, hf⟩ : ∃ f, prgE p r = f := ⟨_, rfl⟩
  have HFf : Hid (prgE p r = f) := hf
  rw [hf]
  clear hf
  have hA : Below w1.heap.size w1 (w1.alloc (.cells #[.slice none 0 0, .int .i64 0, .slice none 0 0, .slice none 0 0] 26)) := (Below.refl _ _).alloc (Nat.le_refl _) _
  have hx2 := hx1.step hA
  have hs2 : (w1.alloc (.cells #[.slice none 0 0, .int .i64 0, .slice none 0 0, .slice none 0 0] 26)).heap.size = w1.heap.size + 1 := by simp
  have HB : Hid ((w1.alloc (.cells #[.slice none 0 0, .int .i64 0, .slice none 0 0, .slice none 0 0] 26)).heap[w1.heap.size]? = some (.cells #[.slice none 0 0, .int .i64 0, .slice none 0 0, .slice none 0 0] 26)) := World.alloc_heap_new _ _
  have hs1 := hx1.size
  generalize w1.alloc (.cells #[.slice none 0 0, .int .i64 0, .slice none 0 0, .slice none 0 0] 26) = w2 at hA hx2 hs2 HB ⊢
  clear hx1 k0 k1 k2 k3
  obtain ⟨k0, k1, k2, k3⟩ := hx2.cs
  go_cut [46] from 45 to 45 (fun s46 wx => s46 = .bool (decide (f = 0)) ∧ wx = w2)
  case first =>
    go_wp2_with fail
    go_meet
    case rel => exact ⟨by rw [show (f == 0) = decide (f = 0) by by_cases h : f = 0 <;> simp [h]], rfl⟩
  case rest =>
  obtain ⟨rfl, hwx⟩ := hcut
  rw [hwx]
  clear hwx
  go_step
  go_cut [10] from 46 to 49 (fun s10 wx => s10 = .int .i64 f ∧ (∃ a1 c1 a2 c2 a3 c3, wx.cell? ⟨w1.heap.size, 0, none⟩ = some (.slice a1 (prgP p r).code.length c1) ∧ wx.cell? ⟨w1.heap.size, 1, none⟩ = some (.int .i64 (prgP p r).ticks) ∧ wx.cell? ⟨w1.heap.size, 2, none⟩ = some (.slice a2 (prgP p r).spans.length c2) ∧ wx.cell? ⟨w1.heap.size, 3, none⟩ = some (.slice a3 (prgP p r).wires.length c3) ∧ Pln wx (.slice a1 (prgP p r).code.length c1) (.slice a2 (prgP p r).spans.length c2) (.slice a3 (prgP p r).wires.length c3) (prgP p r)) ∧ w1.heap.size < wx.heap.size ∧ Bxt w wx (.slice ca p.code.length cc) p.ticks (.slice sa p.spans.length sc) (.slice wa p.wires.length wc') (.slice xa q.code.length xc) q.ticks (.slice ya q.spans.length yc) (.slice za q.wires.length zc'))
  case first =>
    by_cases h0 : f = 0
    · have hd : decide (f = 0) = true := decide_eq_true h0
      rw [hd]
      obtain ⟨hp0, hr0, hr1⟩ := prgE_zero (HFf.out.trans h0)
      have HPP : Hid (prgP p r = purgeP p (fun i => way p.wires i r.toNat)) := by show _ = _; unfold prgP; rw [if_pos (HFf.out.trans h0)]
      obtain ⟨rn, rfl⟩ : ∃ k : Nat, r = k := ⟨r.toNat, by omega⟩
      rw [Int.toNat_natCast] at HPP
      have HC : Hid (Calls Tryz.prog 5 #[.agg #[.slice ca p.code.length cc, .int .i64 p.ticks, .slice sa p.spans.length sc, .slice wa p.wires.length wc'], .int .i64 rn] w2 fun e w' => ∃ jo jn jc, e = .returned (.agg #[.slice jo jn jc, .int .i64 p.ticks, .slice sa p.spans.length sc, .slice wa p.wires.length wc']) ∧ (∀ M W', KTouch M w' W' → (∀ m ∈ M, w.heap.size ≤ m ∧ m < w2.heap.size) → Pln W' (.slice jo jn jc) (.slice sa p.spans.length sc) (.slice wa p.wires.length wc') (purgeP p (fun i => way p.wires i rn))) ∧ Below w2.heap.size w2 w') := by
        refine (hPu p _ _ _ rn w w2 hp0 HP.out hx2.below (by omega)).mono ?_
        rintro e w' ⟨ic, rfl, h1, h2⟩
        obtain ⟨jo, jc, hj⟩ := (h1 [] w' (KTouch.refl _ _) (by simp)).code.form
        subst hj
        exact ⟨_, _, _, rfl, h1, h2⟩
      clear h0 hd
      go_wp2_with (go_at_call 5; refine HC.out.mono ?_; rintro e w3 ⟨jo, jn, jc, rfl, hpl, b3⟩; have hk3 : w3.heap[w1.heap.size]? = some (.cells #[.slice none 0 0, .int .i64 0, .slice none 0 0, .slice none 0 0] 26) := (b3.block w1.heap.size (by omega)).trans HB.out; have z0 : w3.cell? ⟨w1.heap.size, 0, none⟩ = some (.slice none 0 0) := (by simp [World.cell?, hk3]); have z1 : w3.cell? ⟨w1.heap.size, 1, none⟩ = some (.int .i64 0) := (by simp [World.cell?, hk3]); have z2 : w3.cell? ⟨w1.heap.size, 2, none⟩ = some (.slice none 0 0) := (by simp [World.cell?, hk3]); have z3 : w3.cell? ⟨w1.heap.size, 3, none⟩ = some (.slice none 0 0) := (by simp [World.cell?, hk3]); have y0 : w3.frozen? ⟨w1.heap.size, 0, none⟩ = false := (by simp [World.frozen?, hk3]); have y1 : w3.frozen? ⟨w1.heap.size, 1, none⟩ = false := (by simp [World.frozen?, hk3]); have y2 : w3.frozen? ⟨w1.heap.size, 2, none⟩ = false := (by simp [World.frozen?, hk3]); have y3 : w3.frozen? ⟨w1.heap.size, 3, none⟩ = false := (by simp [World.frozen?, hk3]); have HPl : Hid (∀ M W', KTouch M w3 W' → (∀ m ∈ M, w.heap.size ≤ m ∧ m < w2.heap.size) → Pln W' (.slice jo jn jc) (.slice sa p.spans.length sc) (.slice wa p.wires.length wc') (purgeP p (fun i => way p.wires i rn))) := hpl; clear hpl hk3)
      go_meet
      case rel =>
        have htk : KTouch [w1.heap.size] w3 ((((w3.setCell ⟨w1.heap.size, 0, none⟩ (.slice jo jn jc)).setCell ⟨w1.heap.size, 1, none⟩ (.int .i64 p.ticks)).setCell ⟨w1.heap.size, 2, none⟩ (.slice sa p.spans.length sc)).setCell ⟨w1.heap.size, 3, none⟩ (.slice wa p.wires.length wc')) :=
          (((KTouch.set w3 (by simp) 0 _).trans (KTouch.set _ (by simp) 1 _)).trans (KTouch.set _ (by simp) 2 _)).trans (KTouch.set _ (by simp) 3 _)
        have hpl := HPl.out _ _ htk (fun m hm => by rw [List.mem_singleton] at hm; omega)
        have hsz := htk.size
        have hs3 := b3.size
        have hjn : jn = (prgP p rn).code.length := by
          obtain ⟨_, _, hj⟩ := hpl.code.form
          injection hj with _ e2 _
          rw [HPP.out, e2]
        subst hjn
        refine ⟨rfl, ⟨jo, jc, sa, sc, wa, wc', ?_, ?_, ?_, ?_, ?_⟩, by omega, (hx2.step b3).set htk (fun m hm => by rw [List.mem_singleton] at hm; omega)⟩
        · simp [go_sem, z0]
        · rw [HPP.out]; simp [go_sem, z1, purgeP]
        · rw [HPP.out]; simp [go_sem, z2, purgeP]
        · rw [HPP.out]; simp [go_sem, z3, purgeP]
        · rw [HPP.out] at hpl ⊢
          exact hpl
    · have hd : decide (f = 0) = false := decide_eq_false h0
      rw [hd]
      have HPP : Hid (prgP p r = noPlan) := by show _ = _; unfold prgP; rw [if_neg (by rw [HFf.out]; exact h0)]
      clear h0 hd
      go_wp2_with fail
      go_meet
      case rel =>
        have hk3 := HB.out
        rw [HPP.out]
        exact ⟨rfl, ⟨none, 0, none, 0, none, 0, by simp [World.cell?, hk3, noPlan], by simp [World.cell?, hk3, noPlan], by simp [World.cell?, hk3, noPlan], by simp [World.cell?, hk3, noPlan], ⟨Or.inl ⟨rfl, _, _, rfl⟩, Or.inl ⟨rfl, _, _, rfl⟩, Or.inl ⟨rfl, _, _, rfl⟩⟩⟩, by omega, hx2⟩
  case rest =>
  obtain ⟨rfl, ⟨a1, c1, a2, c2, a3, c3, m0, m1, m2, m3, hpw⟩, hlt3, hx3⟩ := hcut
  clear hx2 hA HB k0 k1 k2 k3 hs2
  generalize wc = W3 at *
  have HPg : Hid (∀ W, Below w.heap.size w W → Calls Tryz.prog 6 #[.agg #[.slice ca p.code.length cc, .int .i64 p.ticks, .slice sa p.spans.length sc, .slice wa p.wires.length wc'], .int .i64 r] W fun e w' => ∃ a4 c4 a5 c5 a6 c6, e = .returned (.tuple #[.agg #[.slice a4 (prgP p r).code.length c4, .int .i64 (prgP p r).ticks, .slice a5 (prgP p r).spans.length c5, .slice a6 (prgP p r).wires.length c6], wErr f]) ∧ Pln w' (.slice a4 (prgP p r).code.length c4) (.slice a5 (prgP p r).spans.length c5) (.slice a6 (prgP p r).wires.length c6) (prgP p r) ∧ Below W.heap.size W w') := fun W hb => by
    have := P p _ _ _ r W (HG.out W hb) (HP.out.all hb)
    rw [HFf.out] at this
    refine this.mono ?_
    rintro e w' ⟨jc, js, jw, rfl, h1, h2⟩
    obtain ⟨a4, c4, rfl⟩ := h1.code.form
    obtain ⟨a5, c5, rfl⟩ := h1.spans.form
    obtain ⟨a6, c6, rfl⟩ := h1.wires.form
    exact ⟨a4, c4, a5, c5, a6, c6, rfl, h1, h2⟩
  have HEf : Hid (∀ W, Below w.heap.size w W → Calls Tryz.prog 7 #[wErr f, .int .i64 f] W fun r w' => r = .returned (.bool true) ∧ Below W.heap.size W w') := fun W hb => HE.out f W hb
  have HSP : Hid (∀ W b1 d1 b2 d2 b3 d3 e1 f1 e2 f2 e3 f3, Pln W (.slice b1 (prgP p r).code.length d1) (.slice b2 (prgP p r).spans.length d2) (.slice b3 (prgP p r).wires.length d3) (prgP p r) → Pln W (.slice e1 (prgP p r).code.length f1) (.slice e2 (prgP p r).spans.length f2) (.slice e3 (prgP p r).wires.length f3) (prgP p r) → Calls Tryz.prog 8 #[.agg #[.slice b1 (prgP p r).code.length d1, .int .i64 (prgP p r).ticks, .slice b2 (prgP p r).spans.length d2, .slice b3 (prgP p r).wires.length d3], .agg #[.slice e1 (prgP p r).code.length f1, .int .i64 (prgP p r).ticks, .slice e2 (prgP p r).spans.length f2, .slice e3 (prgP p r).wires.length f3]] W fun e w' => e = .returned (.bool true) ∧ Below W.heap.size W w') := fun W b1 d1 b2 d2 b3 d3 e1 f1 e2 f2 e3 f3 h1 h2 => by
    obtain ⟨l1, l2, l3, l4⟩ := prg_short p r
    exact sameplan_any (prgP p r) _ _ _ _ _ _ W h1 h2 l1 l2 l3 l4
  obtain ⟨ev, hev⟩ : ∃ v, v = wErr f := ⟨_, rfl⟩
  rw [← hev] at HPg HEf
  clear hev
  obtain ⟨k0, k1, k2, k3⟩ := hx3.cs
  have HPW : Hid (Pln W3 (.slice a1 (prgP p r).code.length c1) (.slice a2 (prgP p r).spans.length c2) (.slice a3 (prgP p r).wires.length c3) (prgP p r)) := hpw
  clear hpw
  have q4 := HPg.out W3 hx3.below
  go_upto_region 12 with (first
    | (go_at_call 6; refine q4.mono ?_; rintro e w4 ⟨a4, c4, a5, c5, a6, c6, rfl, hp4, b4⟩; clear q4; have b5 : Below W3.heap.size W3 (w4.alloc (.cells #[.slice a4 (prgP p r).code.length c4, .int .i64 (prgP p r).ticks, .slice a5 (prgP p r).spans.length c5, .slice a6 (prgP p r).wires.length c6] 26)) := b4.alloc b4.size _; have HP4 : Hid (Pln w4 (.slice a4 (prgP p r).code.length c4) (.slice a5 (prgP p r).spans.length c5) (.slice a6 (prgP p r).wires.length c6) (prgP p r)) := hp4; clear hp4; have hx5 := hx3.step b5; have q5 := HEf.out _ hx5.below)
    | (go_at_call 7; refine q5.mono ?_; rintro e w6 ⟨rfl, b6⟩; clear q5; have hx6 := hx5.step b6; have b46 : Below w4.heap.size w4 w6 := ((Below.refl _ _).alloc (Nat.le_refl _) _).trans (b6.mono (by simp)); have b36 := b5.trans (b6.mono b5.size); have n0 : w6.cell? ⟨w4.heap.size, 0, none⟩ = some (.slice a4 (prgP p r).code.length c4) := (b6.cell (p := ⟨w4.heap.size, 0, none⟩) (by simp)).trans (by simp); have n1 : w6.cell? ⟨w4.heap.size, 1, none⟩ = some (.int .i64 (prgP p r).ticks) := (b6.cell (p := ⟨w4.heap.size, 1, none⟩) (by simp)).trans (by simp); have n2 : w6.cell? ⟨w4.heap.size, 2, none⟩ = some (.slice a5 (prgP p r).spans.length c5) := (b6.cell (p := ⟨w4.heap.size, 2, none⟩) (by simp)).trans (by simp); have n3 : w6.cell? ⟨w4.heap.size, 3, none⟩ = some (.slice a6 (prgP p r).wires.length c6) := (b6.cell (p := ⟨w4.heap.size, 3, none⟩) (by simp)).trans (by simp); have o0 := (b36.cell (p := ⟨w1.heap.size, 0, none⟩) hlt3).trans m0; have o1 := (b36.cell (p := ⟨w1.heap.size, 1, none⟩) hlt3).trans m1; have o2 := (b36.cell (p := ⟨w1.heap.size, 2, none⟩) hlt3).trans m2; have o3 := (b36.cell (p := ⟨w1.heap.size, 3, none⟩) hlt3).trans m3; have q6 := HSP.out w6 _ _ _ _ _ _ _ _ _ _ _ _ (HP4.out.all b46) (HPW.out.all b36))
    | (go_at_call 8; refine q6.mono ?_; rintro e w7 ⟨rfl, b7⟩; clear q6))
  have hx7 := hx6.step b7
  clear hx3 hx5 hx6 b4 b5 b6 b7 b46 b36 n0 n1 n2 n3 o0 o1 o2 o3 m0 m1 m2 m3 k0 k1 k2 k3 HPg HEf HSP HP4 HPW hlt3 hs1
  generalize w7 = W4 at *
  obtain ⟨d0, d1, d2, d3⟩ := hx7.ds
  go_cut [65] from 64 to 64 (fun s65 wx => s65 = .bool (decide (z = 0)) ∧ wx = W4)
  case first =>
    go_wp2_with fail
    go_meet
    case rel => exact ⟨by rw [show (z == 0) = decide (z = 0) by by_cases h : z = 0 <;> simp [h]], rfl⟩
  case rest =>
  obtain ⟨rfl, hwx⟩ := hcut
  rw [hwx]
  clear hwx
  go_step
  go_cut [9] from 65 to 67 (fun s9 wx => s9 = .int .i64 (twoE p q) ∧ Bxt w wx (.slice ca p.code.length cc) p.ticks (.slice sa p.spans.length sc) (.slice wa p.wires.length wc') (.slice xa q.code.length xc) q.ticks (.slice ya q.spans.length yc) (.slice za q.wires.length zc'))
  case first =>
    by_cases h0 : z = 0
    · have hd : decide (z = 0) = true := decide_eq_true h0
      rw [hd]
      have HX : Hid (twoE p q = plchk q) := by show _ = _; unfold twoE; rw [if_pos (HZ.out.trans h0)]
      have q8 := HRq.out W4 hx7.below
      clear h0 hd
      go_wp2_with (go_at_call 4; refine q8.mono ?_; rintro e w8 ⟨rfl, b8⟩; clear q8)
      go_meet
      case rel => exact ⟨by rw [HX.out], hx7.step b8⟩
    · have hd : decide (z = 0) = false := decide_eq_false h0
      rw [hd]
      have HX : Hid (twoE p q = z) := by show _ = _; unfold twoE; rw [if_neg (by rw [HZ.out]; exact h0)]; exact HZ.out
      clear h0 hd
      go_wp2_with fail
      go_meet
      case rel => exact ⟨by rw [HX.out], hx7⟩
  case rest =>
  clear hx7 d0 d1 d2 d3
  obtain ⟨rfl, hx8⟩ := hcut
  generalize wc = W5 at *
  have HLE : Hid (likeE p q nn r = if twoE p q = 0 ∧ badL p q nn r then 1 else twoE p q) := likeE_two p q nn r
  generalize twoE p q = y at HLE ⊢
  obtain ⟨k0, k1, k2, k3⟩ := hx8.cs
  obtain ⟨d0, d1, d2, d3⟩ := hx8.ds
  go_upto_region 14 with fail
  go_cut [95] from 68 to 94 (fun s95 wx => s95 = .bool (decide (y = 0 ∧ badL p q nn r)) ∧ wx = W5)
  case first =>
    by_cases h0 : y = 0
    · have h0' : (y == 0) = true := by simpa using h0
      by_cases h1 : r < 0
      · have h1' : decide (r < 0) = true := decide_eq_true h1
        have HX : Hid (decide (y = 0 ∧ badL p q nn r) = true) := decide_eq_true ⟨h0, Or.inl h1⟩
        clear h0
        go_wp2_with fail
        go_meet
        case rel => exact ⟨by rw [HX.out], rfl⟩
      have h1' : decide (r < 0) = false := decide_eq_false h1
      by_cases h2 : (p.code.length : Int) ≤ r
      · have h2' : decide ((p.code.length : Int) ≤ r) = true := decide_eq_true h2
        have HX : Hid (decide (y = 0 ∧ badL p q nn r) = true) := decide_eq_true ⟨h0, Or.inr (Or.inl h2)⟩
        clear h0
        go_wp2_with fail
        go_meet
        case rel => exact ⟨by rw [HX.out], rfl⟩
      have h2' : decide ((p.code.length : Int) ≤ r) = false := decide_eq_false h2
      by_cases h3 : (q.code.length : Int) ≤ r
      · have h3' : decide ((q.code.length : Int) ≤ r) = true := decide_eq_true h3
        have HX : Hid (decide (y = 0 ∧ badL p q nn r) = true) := decide_eq_true ⟨h0, Or.inr (Or.inr (Or.inl h3))⟩
        clear h0
        go_wp2_with fail
        go_meet
        case rel => exact ⟨by rw [HX.out], rfl⟩
      have h3' : decide ((q.code.length : Int) ≤ r) = false := decide_eq_false h3
      by_cases h4 : nn < 0
      · have h4' : decide (nn < 0) = true := decide_eq_true h4
        have HX : Hid (decide (y = 0 ∧ badL p q nn r) = true) := decide_eq_true ⟨h0, Or.inr (Or.inr (Or.inr (Or.inl h4)))⟩
        clear h0
        go_wp2_with fail
        go_meet
        case rel => exact ⟨by rw [HX.out], rfl⟩
      have h4' : decide (nn < 0) = false := decide_eq_false h4
      by_cases h5 : 2000 < nn
      · have h5' : decide (2000 < nn) = true := decide_eq_true h5
        have HX : Hid (decide (y = 0 ∧ badL p q nn r) = true) := decide_eq_true ⟨h0, Or.inr (Or.inr (Or.inr (Or.inr h5)))⟩
        clear h0
        go_wp2_with fail
        go_meet
        case rel => exact ⟨by rw [HX.out], rfl⟩
      have h5' : decide (2000 < nn) = false := decide_eq_false h5
      have HX : Hid (decide (y = 0 ∧ badL p q nn r) = false) := decide_eq_false (fun e => by have h := e.2; unfold badL at h; omega)
      clear h0
      go_wp2_with fail
      go_meet
      case rel => exact ⟨by rw [HX.out], rfl⟩
    · have h0' : (y == 0) = false := by simpa using h0
      have HX : Hid (decide (y = 0 ∧ badL p q nn r) = false) := decide_eq_false (fun e => h0 e.1)
      clear h0
      go_wp2_with fail
      go_meet
      case rel => exact ⟨by rw [HX.out], rfl⟩
  case rest =>
  obtain ⟨rfl, hwx⟩ := hcut
  rw [hwx]
  clear hwx
  go_step
  go_cut [9] from 95 to 95 (fun s9 wx => s9 = .int .i64 (likeE p q nn r) ∧ wx = W5)
  case first =>
    by_cases h0 : y = 0 ∧ badL p q nn r
    · have HX : Hid (likeE p q nn r = 1) := by show _ = _; rw [HLE.out, if_pos h0]
      have hd : decide (y = 0 ∧ badL p q nn r) = true := decide_eq_true h0
      rw [hd]
      clear h0 hd
      go_wp2_with fail
      go_meet
      case rel => exact ⟨by rw [HX.out], rfl⟩
    · have HX : Hid (likeE p q nn r = y) := by show _ = _; rw [HLE.out, if_neg h0]
      have hd : decide (y = 0 ∧ badL p q nn r) = false := decide_eq_false h0
      rw [hd]
      clear h0 hd
      go_wp2_with fail
      go_meet
      case rel => exact ⟨by rw [HX.out], rfl⟩
  case rest =>
  obtain ⟨rfl, hwx⟩ := hcut
  rw [hwx]
  clear hwx HLE
  obtain ⟨g, hg⟩ : ∃ g, likeE p q nn r = g := ⟨_, rfl⟩
  have HGg : Hid (likeE p q nn r = g) := hg
  rw [hg]
  clear hg
  go_upto_region 17 with fail
  go_cut [97] from 96 to 96 (fun s97 wx => s97 = .bool (decide (g = 0)) ∧ wx = W5)
  case first =>
    go_wp2_with fail
    go_meet
    case rel => exact ⟨by rw [show (g == 0) = decide (g = 0) by by_cases h : g = 0 <;> simp [h]], rfl⟩
  case rest =>
  obtain ⟨rfl, hwx⟩ := hcut
  rw [hwx]
  clear hwx
  go_step
  go_cut [15, 16, 17, 18] from 97 to 120 (fun s15 _ _ _ wx => s15 = .int .i64 (likeAt p q nn r) ∧ Bxt w wx (.slice ca p.code.length cc) p.ticks (.slice sa p.spans.length sc) (.slice wa p.wires.length wc') (.slice xa q.code.length xc) q.ticks (.slice ya q.spans.length yc) (.slice za q.wires.length zc'))
  case first =>
    by_cases h0 : g = 0
    · have hd : decide (g = 0) = true := decide_eq_true h0
      rw [hd]
      obtain ⟨hp0, hq0, hr0, hr1, hr2, hn0, hn1⟩ := likeE_zero (HGg.out.trans h0)
      obtain ⟨nk, rfl⟩ : ∃ k : Nat, nn = k := ⟨nn.toNat, by omega⟩
      obtain ⟨rn, rfl⟩ : ∃ k : Nat, r = k := ⟨r.toNat, by omega⟩
      have HX : Hid (likeAt p q nk rn = partAt (statesK p nk rn) (statesK q nk rn) 0) := by show _ = _; unfold likeAt; rw [if_pos (HGg.out.trans h0), Int.toNat_natCast, Int.toNat_natCast]
      have HSa : Hid (∀ W, Below w.heap.size w W → Calls Tryz.prog 9 #[.agg #[.slice ca p.code.length cc, .int .i64 p.ticks, .slice sa p.spans.length sc, .slice wa p.wires.length wc'], .int .i64 nk, .int .i64 rn] W fun e w' => ∃ b off cap, e = .returned (.slice (some ⟨b, off, none⟩) (nk + 1) cap) ∧ b < w'.heap.size ∧ (∀ (i : Nat) s, (statesK p nk rn)[i]? = some s → StC w' b (off + i * 8) s) ∧ Below W.heap.size W w') := fun W hb => by
        refine (hSt p _ _ _ nk rn W hp0 (HP.out.all hb) (by omega) (by omega)).mono ?_
        rintro e w' ⟨v, rfl, h1, h2⟩
        rcases h1 with ⟨h3, _⟩ | ⟨b, off, cap, rfl, _, h4, h5⟩
        · have := statesK_len p nk rn
          rw [h3] at this
          cases this
        · exact ⟨b, off, cap, by rw [statesK_len], h4, h5, h2⟩
      have HSb : Hid (∀ W, Below w.heap.size w W → Calls Tryz.prog 9 #[.agg #[.slice xa q.code.length xc, .int .i64 q.ticks, .slice ya q.spans.length yc, .slice za q.wires.length zc'], .int .i64 nk, .int .i64 rn] W fun e w' => ∃ b off cap, e = .returned (.slice (some ⟨b, off, none⟩) (nk + 1) cap) ∧ b < w'.heap.size ∧ (∀ (i : Nat) s, (statesK q nk rn)[i]? = some s → StC w' b (off + i * 8) s) ∧ Below W.heap.size W w') := fun W hb => by
        refine (hSt q _ _ _ nk rn W hq0 (HQ.out.all hb) (by omega) (by omega)).mono ?_
        rintro e w' ⟨v, rfl, h1, h2⟩
        rcases h1 with ⟨h3, _⟩ | ⟨b, off, cap, rfl, _, h4, h5⟩
        · have := statesK_len q nk rn
          rw [h3] at this
          cases this
        · exact ⟨b, off, cap, by rw [statesK_len], h4, h5, h2⟩
      clear h0 hd hPu hSt
      have q8 := HSa.out W5 hx8.below
      go_wp2_with (first
        | (go_at_call 9; refine q8.mono ?_; rintro e w8 ⟨ab, ao, ac, rfl, ha1, ha2, b8⟩; clear q8 d0 d1 d2 d3; have hx9 := hx8.step b8; obtain ⟨d0, d1, d2, d3⟩ := hx9.ds; have q9 := HSb.out w8 hx9.below)
        | (go_at_call 9; refine q9.mono ?_; rintro e w9 ⟨bb, bo, bc, rfl, hb1, hb2, b9⟩; clear q9))
      have hx10 := hx9.step b9
      have ha3 : ab < w9.heap.size := Nat.lt_of_lt_of_le ha1 b9.size
      have HA : Hid (∀ (i : Nat) s, (statesK p nk rn)[i]? = some s → StC w9 ab (ao + i * 8) s) := fun i s h => (ha2 i s h).block (b9.block ab ha1)
      have HB : Hid (∀ (i : Nat) s, (statesK q nk rn)[i]? = some s → StC w9 bb (bo + i * 8) s) := hb2
      have hla := statesK_len p nk rn
      have hlb := statesK_len q nk rn
      clear ha2 hb2 hx8 hx9 d0 d1 d2 d3 k0 k1 k2 k3
      go_loopw [15, 18] (fun s15 s18 wr => ∃ (j : Nat) (t : Int), j ≤ nk + 1 ∧ t = (j : Int) - 1 ∧ s18 = .int .i64 t ∧ s15 = .int .i64 (partAt ((statesK p nk rn).drop j) ((statesK q nk rn).drop j) j) ∧ Below w9.heap.size w9 wr) (fun _ s18 _ => (intOf s18 + 1).toNat)
      case atStart => exact ⟨nk + 1, nk, Nat.le_refl _, by omega, rfl, by rw [partAt_end (by omega)], Below.refl _ _⟩
      case round =>
        obtain ⟨j, t, hj, ht, rfl, rfl, hbw⟩ := hrel
        cases j with
        | zero =>
          obtain rfl : t = -1 := by omega
          clear ht hj
          have HX2 : Hid (likeAt p q nk rn = partAt (List.drop 0 (statesK p nk rn)) (List.drop 0 (statesK q nk rn)) 0) := HX.out
          go_wp2_with fail
          go_meet
          case rel => exact ⟨by rw [HX2.out], hx10.step hbw⟩
        | succ i =>
          obtain rfl : t = (i : Int) := by omega
          have hil : i < nk + 1 := by omega
          clear ht
          obtain ⟨s, hs⟩ : ∃ s, (statesK p nk rn)[i]? = some s := ⟨_, List.getElem?_eq_getElem (by omega)⟩
          obtain ⟨u, hu⟩ : ∃ u, (statesK q nk rn)[i]? = some u := ⟨_, List.getElem?_eq_getElem (by omega)⟩
          have HD : Hid (partAt ((statesK p nk rn).drop i) ((statesK q nk rn).drop i) i = if sameS s u = true then partAt ((statesK p nk rn).drop (i + 1)) ((statesK q nk rn).drop (i + 1)) (i + 1) else (i : Int)) := partAt_drop hs hu
          obtain ⟨s0, s1, s2, s3, s4, s5, s6, s7⟩ := (HA.out i s hs).block (hbw.block ab ha3)
          obtain ⟨t0, t1, t2, t3, t4, t5, t6, t7⟩ := (HB.out i u hu).block (hbw.block bb hb1)
          have hii : (i : Int) < ((nk + 1 : Nat) : Int) := by omega
          have hi0 : (0 : Int) ≤ (i : Int) := by omega
          have hnq := neq_st2 s u
          have hgd := guardSt
          clear hs hu
          generalize partAt ((statesK p nk rn).drop (i + 1)) ((statesK q nk rn).drop (i + 1)) (i + 1) = old at HD ⊢
          cases hss : sameS s u with
          | true =>
            rw [hss] at hnq HD
            clear hss
            go_wp2
            go_quiet (fail)
            go_wp2
            go_roundw
            case rel => exact ⟨i, (i : Int) - 1, by omega, rfl, by go_num, by rw [HD.out]; rfl, below_dN hbw _⟩
            case measure => simp [intOf]
          | false =>
            rw [hss] at hnq HD
            clear hss
            go_wp2
            go_quiet (fail)
            go_wp2
            go_roundw
            case rel => exact ⟨i, (i : Int) - 1, by omega, rfl, by go_num, by rw [HD.out]; rfl, below_dN hbw _⟩
            case measure => simp [intOf]
    · have hd : decide (g = 0) = false := decide_eq_false h0
      rw [hd]
      have HX : Hid (likeAt p q nn r = 0) := by show _ = _; unfold likeAt; rw [if_neg (by rw [HGg.out]; exact h0)]
      clear h0 hd
      go_wp2_with fail
      go_meet
      case rel => exact ⟨by rw [HX.out], hx8⟩
  case rest =>
  clear hx8 k0 k1 k2 k3 d0 d1 d2 d3
  obtain ⟨rfl, hx9⟩ := hcut
  generalize wc = W6 at *
  have HSm : Hid (∀ W, Below w.heap.size w W → Calls Tryz.prog 10 #[.agg #[.slice ca p.code.length cc, .int .i64 p.ticks, .slice sa p.spans.length sc, .slice wa p.wires.length wc'], .agg #[.slice xa q.code.length xc, .int .i64 q.ticks, .slice ya q.spans.length yc, .slice za q.wires.length zc'], .int .i64 nn, .int .i64 r] W fun e w' => e = .returned (.tuple #[.int .i64 (likeAt p q nn r), wErr g]) ∧ Below W.heap.size W w') := fun W hb => by
    have := S p q _ _ _ _ _ _ nn r W (HG.out W hb) (HP.out.all hb) (HQ.out.all hb)
    rw [HGg.out] at this
    exact this
  have HEg : Hid (∀ W, Below w.heap.size w W → Calls Tryz.prog 7 #[wErr g, .int .i64 g] W fun r w' => r = .returned (.bool true) ∧ Below W.heap.size W w') := fun W hb => HE.out g W hb
  obtain ⟨ev2, hev⟩ : ∃ v, v = wErr g := ⟨_, rfl⟩
  rw [← hev] at HSm HEg
  clear hev
  generalize likeAt p q nn r = t9 at HSm ⊢
  obtain ⟨k0, k1, k2, k3⟩ := hx9.cs
  obtain ⟨d0, d1, d2, d3⟩ := hx9.ds
  have q9 := HSm.out W6 hx9.below
  go_wp2_with (first
    | (go_at_call 10; refine q9.mono ?_; rintro e w10 ⟨rfl, b10⟩; clear q9; have hx10 := hx9.step b10; have q10 := HEg.out _ hx10.below)
    | (go_at_call 7; refine q10.mono ?_; rintro e w11 ⟨rfl, b11⟩; clear q10; have hx11 := hx10.step b11))
  go_ret
  exact ⟨rfl, hx11.below⟩
end Go.Proofs.YtajfgmlockjmhaeGreatDoor
namespace Go.Proofs.YtajfgmlockjmhaeGreatDoor
open Go.RowKit

set_option maxRecDepth 1000000 in
set_option maxHeartbeats 4000000 in
theorem refwho_some (n : Int) (l : List S3) (b off cap : Nat) (t : Int) (w : World) (hn0 : 1 ≤ n) (hn1 : n ≤ 40) (ht : 0 ≤ t) (hlen : l.length ≤ 12) (hlt : b < w.heap.size) (hc : SpC w b off l) :
    Calls Tryz.prog 56 #[.int .i64 n, .slice (some ⟨b, off, none⟩) l.length cap, .int .i64 t] w fun e w' => e = .returned (.int .i64 (hold l (t % n))) ∧ Below w.heap.size w w' := by
  have hn' : ¬ n = 0 := by omega
  go_enter Tryz.func56, Tryz.ntmps56
  go_wp2
  go_loopw [7] (fun i wr => ∃ k : Nat, k ≤ l.length ∧ i = .int .i64 k ∧ Hid (hold l (t % n) = hold (l.drop k) (t % n)) ∧ Below w.heap.size w wr) (fun i _ => l.length - (intOf i).toNat)
  case atStart => exact ⟨0, Nat.zero_le _, rfl, by show _ = _; simp, Below.refl _ _⟩
  case round =>
    obtain ⟨k, hk, rfl, HS, hb⟩ := hrel
    by_cases hkl : k < l.length
    · obtain ⟨o, ho⟩ : ∃ o, l[k]? = some o := ⟨l[k], List.getElem?_eq_getElem hkl⟩
      have HD : Hid (hold l (t % n) = if hits (t % n) o = true then o.2.2 else hold (l.drop (k + 1)) (t % n)) := HS.out.trans (hold_drop ho)
      obtain ⟨c0, c1, c2⟩ := hc.below hb hlt k o ho
      clear ho HS
      have hki : (k : Int) < (l.length : Int) := by omega
      by_cases h1 : o.1 ≤ t % n
      · by_cases h2 : t % n < o.2.1
        · have HF : Hid (hold l (t % n) = o.2.2) := by show _ = _; rw [HD.out, if_pos (by simp [hits, h1, h2])]
          have h1' : decide (o.1 ≤ t % n) = true := by simpa using h1
          have h2' : decide (t % n < o.2.1) = true := by simpa using h2
          clear HD
          go_wp2
          go_quiet (fail)
          go_wp2
          go_ret
          exact ⟨retI HF.out.symm, below_drewN hb _⟩
        · have HF : Hid (hold l (t % n) = hold (l.drop (k + 1)) (t % n)) := by show _ = _; rw [HD.out, if_neg (by simp [hits, h2])]
          have h1' : decide (o.1 ≤ t % n) = true := by simpa using h1
          have h2' : decide (t % n < o.2.1) = false := by simpa using h2
          clear HD
          go_wp2
          go_quiet (fail)
          go_wp2
          go_roundw
          case rel => exact ⟨k + 1, by omega, by go_num, HF.out, below_drewN hb _⟩
          case measure => simp [intOf]; omega
      · have HF : Hid (hold l (t % n) = hold (l.drop (k + 1)) (t % n)) := by show _ = _; rw [HD.out, if_neg (by simp [hits, h1])]
        have h1' : decide (o.1 ≤ t % n) = false := by simpa using h1
        clear HD
        go_wp2
        go_quiet (fail)
        go_wp2
        go_roundw
        case rel => exact ⟨k + 1, by omega, by go_num, HF.out, below_drewN hb _⟩
        case measure => simp [intOf]; omega
    · obtain rfl : k = l.length := by omega
      have HF : Hid (hold l (t % n) = -1) := by show _ = _; rw [HS.out, List.drop_length]; rfl
      clear HS
      go_wp2
      go_ret
      exact ⟨retI HF.out.symm, hb⟩
set_option maxRecDepth 100000 in
set_option maxHeartbeats 2000000 in
theorem refwho_nil (n : Int) (ao : Option Addr) (cap : Nat) (t : Int) (w : World) :
    Calls Tryz.prog 56 #[.int .i64 n, .slice ao 0 cap, .int .i64 t] w fun e w' => e = .returned (.int .i64 (-1)) ∧ Below w.heap.size w w' := by
  go_enter Tryz.func56, Tryz.ntmps56
  go_wp2
  refine wp_loop_rounds 1 ?_
  rw [rounds_succ]
  go_wp2
  go_ret
  exact ⟨rfl, Below.refl _ _⟩
theorem refwho_any (n : Int) (l : List S3) (v : Value) (t : Int) (w : World) (hl : Sps w v l) (hn0 : 1 ≤ n) (hn1 : n ≤ 40) (ht : 0 ≤ t) (hlen : l.length ≤ 12) :
    Calls Tryz.prog 56 #[.int .i64 n, v, .int .i64 t] w fun e w' => e = .returned (.int .i64 (hold l (t % n))) ∧ Below w.heap.size w w' := by
  rcases hl with ⟨rfl, ao, cap, rfl⟩ | ⟨b, off, cap, rfl, _, hlt, hc⟩
  · exact refwho_nil n ao cap t w
  · exact refwho_some n l b off cap t w hn0 hn1 ht hlen hlt hc
end Go.Proofs.YtajfgmlockjmhaeGreatDoor
namespace Go.Proofs.YtajfgmlockjmhaeGreatDoor
open Go.RowKit

/-- The first of a room's states. -/
def stsK (p : PD) (t r : Nat) : List St := (List.range t).map fun i => (kT p i).rooms.getD r stNew
theorem stsK_len (p : PD) (t r : Nat) : (stsK p t r).length = t := by simp [stsK]
theorem stsK_succ (p : PD) (t r : Nat) : stsK p (t + 1) r = stsK p t r ++ [(kT p t).rooms.getD r stNew] := by
  unfold stsK
  rw [List.range_succ, List.map_append]
  rfl
theorem stsK_all (p : PD) (n r : Nat) : stsK p (n + 1) r = statesK p n r := rfl
/-- A row of the caller's own has grown. -/
theorem KTouch.rowG {w w2 wa : World} {row : Option Nat} (hb : Below w.heap.size w w2) (hg : w2.grownBy wa row) : KTouch row.toList w wa :=
  ⟨hg.os.trans hb.os, hg.tape.trans hb.tape, hg.output.trans hb.output, Nat.le_trans hb.size hg.size, fun k hk hm => by
    have := hb.size
    exact (hg.block k (by omega) (fun e => hm (by rw [← e]; simp))).trans (hb.block k hk)⟩
/-- A kernel, and a row of states beside it. -/
structure SRn {G : World → Prop} (C : KerC G) (w0 wr : World) (p : PD) (vc vs vw : Value) (kb B r t : Nat) (v : Value) (F : List Nat) : Prop where
  K : C.K w0 wr p vc vs vw (kT p t) kb F
  own : wr.ownsRow B 39 8 v t (stCells (stsK p t r))
  ap : ∀ g, v.ownBlock = some g → g ∉ F
  B1 : w0.heap.size ≤ B
  B2 : B ≤ wr.heap.size
/-- One more state, and a tick. -/
theorem SRn.more {G : World → Prop} {C : KerC G} {w0 wr w3 w8 : World} {p : PD} {vc vs vw : Value} {kb B r t : Nat} {v v' : Value} {F : List Nat} {s : St} (h : SRn C w0 wr p vc vs vw kb B r t v F) (hs : (kT p t).rooms.getD r stNew = s) (b3 : Below wr.heap.size wr w3) (hg : w3.grownBy w8 v.ownBlock)
    (own8 : w8.ownsRow B 39 8 v' (t + 1) (stCells (stsK p t r) ++ [.int .i64 s.p, .int .i64 (s.c 0), .int .i64 (s.c 1), .int .i64 (s.c 2), .int .i64 (s.c 3), .int .i64 (s.c 4), .int .i64 (s.c 5), .bool s.f])) (hnew : ∀ g, v'.ownBlock = some g → v.ownBlock = some g ∨ w3.heap.size ≤ g) (hG : G w0) (hp : plchk p = 0) (ht : t < 1000000) :
    Calls Tryz.prog 41 #[.pointer (some ⟨kb, 0, none⟩)] w8 fun e w' => ∃ a b c d, e = .returned (.agg #[.int .i64 a, .int .i64 b, .int .i64 c, .int .i64 d]) ∧ ∃ F', SRn C w0 w' p vc vs vw kb B r (t + 1) v' F' := by
  have tk := KTouch.rowG b3 hg
  have hK8 := C.frame h.K tk (fun m hm => by
    have hm' : v.ownBlock = some m := by simpa using hm
    exact ⟨h.ap m hm', Nat.le_trans h.B1 (h.own.lt m hm').1⟩)
  refine (C.tick hG hK8 hp (kT_ok hp t) (by rw [kT_time]; omega)).mono ?_
  rintro e w' ⟨rfl, F', hK', tk', hF'⟩
  have hs8 := tk.size
  have hs3 := b3.size
  have hg8 := hg.size
  have hap8 : ∀ g, v'.ownBlock = some g → g ∉ F := fun g hg' hm => by
    rcases hnew g hg' with h1 | h1
    · exact h.ap g h1 hm
    · have := (C.ge h.K g hm).2
      omega
  refine ⟨_, _, _, _, rfl, F', hK', ?_, fun g hg' hm => ?_, h.B1, Nat.le_trans h.B2 (Nat.le_trans hs8 tk'.size)⟩
  · rw [stsK_succ, stCells_snoc, hs]
    exact own_block own8 (fun g hg' => tk'.block g (own8.lt g hg').2 (hap8 g hg'))
  · rcases hF' g hm with h1 | h1
    · exact hap8 g hg' h1
    · have := (own8.lt g hg').2
      omega
set_option maxRecDepth 100000 in
set_option maxHeartbeats 8000000 in
theorem srun_wrong {G : World → Prop} (C : KerC G) (p : PD) (vc vs vw : Value) (n r : Int) (W : World) (hG : G W) (hP : Pln W vc vs vw p) (hp : plchk p ≠ 0) :
    Calls Tryz.prog 24 #[plV vc p.ticks vs vw, .int .i64 n, .int .i64 r] W fun e w' => e = .returned (.tuple #[.slice none 0 0, wErr (plchk p)]) ∧ Below W.heap.size W w' := by
  obtain ⟨ca, cc, rfl⟩ := hP.code.form
  obtain ⟨sa, sc, rfl⟩ := hP.spans.form
  obtain ⟨wa, wc', rfl⟩ := hP.wires.form
  have hx0 := Bx.first W (.slice ca p.code.length cc) p.ticks (.slice sa p.spans.length sc) (.slice wa p.wires.length wc')
  have q1 := C.no p _ _ _ _ (C.all _ _ hG hx0.below) (hP.all hx0.below) hp
  rw [wErr_not hp] at q1 ⊢
  unfold plV at q1 ⊢
  have k0 := hx0.c0
  have k1 := hx0.c1
  have k2 := hx0.c2
  have k3 := hx0.c3
  clear hP hG
  generalize plchk p = z at q1 hp ⊢
  go_enter Tryz.func24, Tryz.ntmps24
  go_wp2_with (go_at_call 39; refine q1.mono ?_; rintro e w1 ⟨x, rfl, b1⟩)
  go_ret2
  exact ⟨rfl, (hx0.step b1).below⟩
set_option maxRecDepth 100000 in
set_option maxHeartbeats 8000000 in
theorem srun_n {G : World → Prop} (C : KerC G) (p : PD) (vc vs vw : Value) (n r : Int) (W : World) (hG : G W) (hP : Pln W vc vs vw p) (hp : plchk p = 0) (hn : n < 0 ∨ 2000 < n) :
    Calls Tryz.prog 24 #[plV vc p.ticks vs vw, .int .i64 n, .int .i64 r] W fun e w' => e = .returned (.tuple #[.slice none 0 0, wErr 1]) ∧ Below W.heap.size W w' := by
  obtain ⟨ca, cc, rfl⟩ := hP.code.form
  obtain ⟨sa, sc, rfl⟩ := hP.spans.form
  obtain ⟨wa, wc', rfl⟩ := hP.wires.form
  have hx0 := Bx.first W (.slice ca p.code.length cc) p.ticks (.slice sa p.spans.length sc) (.slice wa p.wires.length wc')
  have q1 : Calls Tryz.prog 39 #[.agg #[.slice ca p.code.length cc, .int .i64 p.ticks, .slice sa p.spans.length sc, .slice wa p.wires.length wc']] (W.alloc (.cells #[.slice ca p.code.length cc, .int .i64 p.ticks, .slice sa p.spans.length sc, .slice wa p.wires.length wc'] 26)) fun e w' => ∃ kb, e = .returned (.tuple #[.pointer (some ⟨kb, 0, none⟩), .nilIface]) ∧ Below W.heap.size W w' := by
    refine (C.new p _ _ _ _ (C.all _ _ hG hx0.below) (hP.all hx0.below) hp).mono ?_
    rintro e w' ⟨kb, F, rfl, hK⟩
    exact ⟨kb, rfl, hx0.below.trans ((C.since hK).mono (by simp))⟩
  unfold plV
  have k0 := hx0.c0
  have k1 := hx0.c1
  have k2 := hx0.c2
  have k3 := hx0.c3
  clear hP hG hp
  have hcase : decide (n < 0) = true ∨ (decide (n < 0) = false ∧ decide (2000 < n) = true) := by
    by_cases h : n < 0
    · exact Or.inl (decide_eq_true h)
    · exact Or.inr ⟨decide_eq_false h, decide_eq_true (hn.resolve_left h)⟩
  clear hn
  rcases hcase with h1 | ⟨h1, h2⟩
  · go_enter Tryz.func24, Tryz.ntmps24
    go_wp2_with (go_at_call 39; refine q1.mono ?_; rintro e w1 ⟨kb, rfl, b1⟩)
    go_ret2
    exact ⟨rfl, b1⟩
  · go_enter Tryz.func24, Tryz.ntmps24
    go_wp2_with (go_at_call 39; refine q1.mono ?_; rintro e w1 ⟨kb, rfl, b1⟩)
    go_ret2
    exact ⟨rfl, b1⟩
set_option maxRecDepth 100000 in
set_option maxHeartbeats 8000000 in
theorem srun_room {G : World → Prop} (C : KerC G) (p : PD) (vc vs vw : Value) (n : Nat) (r : Int) (W : World) (hG : G W) (hP : Pln W vc vs vw p) (hp : plchk p = 0) (hn : n ≤ 2000) (hr : r < 0 ∨ (p.code.length : Int) ≤ r) :
    Calls Tryz.prog 24 #[plV vc p.ticks vs vw, .int .i64 n, .int .i64 r] W fun e w' => e = .returned (.tuple #[.slice none 0 0, wErr 1]) ∧ Below W.heap.size W w' := by
  obtain ⟨ca, cc, rfl⟩ := hP.code.form
  obtain ⟨sa, sc, rfl⟩ := hP.spans.form
  obtain ⟨wa, wc', rfl⟩ := hP.wires.form
  have hx0 := Bx.first W (.slice ca p.code.length cc) p.ticks (.slice sa p.spans.length sc) (.slice wa p.wires.length wc')
  have q1 : Calls Tryz.prog 39 #[.agg #[.slice ca p.code.length cc, .int .i64 p.ticks, .slice sa p.spans.length sc, .slice wa p.wires.length wc']] (W.alloc (.cells #[.slice ca p.code.length cc, .int .i64 p.ticks, .slice sa p.spans.length sc, .slice wa p.wires.length wc'] 26)) fun e w' => ∃ kb, e = .returned (.tuple #[.pointer (some ⟨kb, 0, none⟩), .nilIface]) ∧ Below W.heap.size W w' ∧ Calls Tryz.prog 40 #[.pointer (some ⟨kb, 0, none⟩), .int .i64 r] w' fun e w2 => e = .returned (.tuple #[stA stNew, wErr 1]) ∧ Below w'.heap.size w' w2 := by
    refine (C.new p _ _ _ _ (C.all _ _ hG hx0.below) (hP.all hx0.below) hp).mono ?_
    rintro e w' ⟨kb, F, rfl, hK⟩
    have hno : noRoom (newK p) r = true := by
      have hl : (newK p).rooms.length = p.code.length := by simp [newK]
      unfold noRoom
      rw [hl, Bool.or_eq_true]
      rcases hr with h | h
      · exact Or.inl (decide_eq_true h)
      · exact Or.inr (decide_eq_true h)
    have hS := C.state r hK (kT_ok hp 0) hp
    have hrk : roomK (newK p) r = stNew := by
      unfold roomK
      rw [if_pos hno]
    rw [hrk, hno] at hS
    exact ⟨kb, rfl, hx0.below.trans ((C.since hK).mono (by simp)), hS⟩
  unfold plV
  have k0 := hx0.c0
  have k1 := hx0.c1
  have k2 := hx0.c2
  have k3 := hx0.c3
  clear hP hG hp hr
  have hn0 : decide ((n : Int) < 0) = false := decide_eq_false (by omega)
  have hn1 : decide (2000 < (n : Int)) = false := decide_eq_false (by omega)
  have hn3 : (0 : Int) < (n : Int) + 1 := by omega
  unfold stA stNew wErr at q1
  go_enter Tryz.func24, Tryz.ntmps24
  go_wp2_with (go_at_call 39; refine q1.mono ?_; rintro e w1 ⟨kb, rfl, b1, q2⟩)
  refine wp_loop_rounds 1 ?_
  rw [rounds_succ]
  go_wp2_with (go_at_call 40; refine q2.mono ?_; rintro e w2 ⟨rfl, b2⟩)
  go_ret2
  refine ⟨rfl, ?_⟩
  have hb := b1.trans (b2.mono b1.size)
  have hs := hb.size
  repeat' first | exact hb | refine Below.drew ?_ | refine Below.alloc ?_ (by first | omega | (simp; omega)) _ | refine Below.setCell ?_ (by first | omega | (simp; omega)) _
set_option maxRecDepth 100000 in
set_option maxHeartbeats 8000000 in
theorem srun_ok {G : World → Prop} (C : KerC G) (p : PD) (vc vs vw : Value) (n r : Nat) (W : World) (hG : G W) (hP : Pln W vc vs vw p) (hp : plchk p = 0) (hn : n ≤ 2000) (hr : r < p.code.length) :
    Calls Tryz.prog 24 #[plV vc p.ticks vs vw, .int .i64 n, .int .i64 r] W fun e w' => ∃ v, e = .returned (.tuple #[v, .nilIface]) ∧ StL w' v (statesK p n r) ∧ Below W.heap.size W w' := by
  obtain ⟨jj, hj, hy0, hy1, hy2⟩ := info_parts infoSt
  obtain ⟨ca, cc, rfl⟩ := hP.code.form
  obtain ⟨sa, sc, rfl⟩ := hP.spans.form
  obtain ⟨wa, wc', rfl⟩ := hP.wires.form
  have hx0 := Bx.first W (.slice ca p.code.length cc) p.ticks (.slice sa p.spans.length sc) (.slice wa p.wires.length wc')
  have HG : Hid (G (W.alloc (.cells #[.slice ca p.code.length cc, .int .i64 p.ticks, .slice sa p.spans.length sc, .slice wa p.wires.length wc'] 26))) := C.all _ _ hG hx0.below
  have hA := hx0.below
  have HN : Hid (Calls Tryz.prog 39 #[.agg #[.slice ca p.code.length cc, .int .i64 p.ticks, .slice sa p.spans.length sc, .slice wa p.wires.length wc']] (W.alloc (.cells #[.slice ca p.code.length cc, .int .i64 p.ticks, .slice sa p.spans.length sc, .slice wa p.wires.length wc'] 26)) fun e w' => ∃ kb F, e = .returned (.tuple #[.pointer (some ⟨kb, 0, none⟩), .nilIface]) ∧ C.K (W.alloc (.cells #[.slice ca p.code.length cc, .int .i64 p.ticks, .slice sa p.spans.length sc, .slice wa p.wires.length wc'] 26)) w' p (.slice ca p.code.length cc) (.slice sa p.spans.length sc) (.slice wa p.wires.length wc') (newK p) kb F) := C.new p _ _ _ _ HG.out (hP.all hx0.below) hp
  unfold plV
  have k0 := hx0.c0
  have k1 := hx0.c1
  have k2 := hx0.c2
  have k3 := hx0.c3
  have HGs : Hid (∀ t, noRoom (kT p t) r = false ∧ roomK (kT p t) r = (kT p t).rooms.getD r stNew) := fun t => by
    have hl : (kT p t).rooms.length = p.code.length := (kT_ok hp t).rl
    have hno : noRoom (kT p t) r = false := by
      unfold noRoom
      rw [hl, Bool.or_eq_false_iff]
      exact ⟨decide_eq_false (by omega), decide_eq_false (by omega)⟩
    refine ⟨hno, ?_⟩
    unfold roomK
    rw [if_neg (by rw [hno]; decide), Int.toNat_natCast]
  clear hP hG
  have hn0 : decide ((n : Int) < 0) = false := decide_eq_false (by omega)
  have hn1 : decide (2000 < (n : Int)) = false := decide_eq_false (by omega)
  go_enter Tryz.func24, Tryz.ntmps24
  go_wp2_with (go_at_call 39; refine HN.out.mono ?_; rintro e w1 ⟨kb, F, rfl, hK⟩)
  clear HN
  generalize W.alloc (.cells #[.slice ca p.code.length cc, .int .i64 p.ticks, .slice sa p.spans.length sc, .slice wa p.wires.length wc'] 26) = W0 at *
  go_loopw [10, 30] (fun v i wr => ∃ (t : Nat) (F : List Nat), t ≤ n + 1 ∧ i = .int .i64 t ∧ SRn C W0 wr p (.slice ca p.code.length cc) (.slice sa p.spans.length sc) (.slice wa p.wires.length wc') kb w1.heap.size r t v F) (fun _ i _ => n + 1 - (intOf i).toNat)
  case atStart => exact ⟨0, F, Nat.zero_le _, rfl, hK, World.ownsRow_nil _ _ _ _, fun g hg => (by cases hg), (C.since hK).size, Nat.le_refl _⟩
  case round =>
    clear hK
    obtain ⟨t, F', htn, rfl, hst⟩ := hrel
    obtain ⟨vo, vn, vk, rfl⟩ := own_form hst.own
    have hbw := C.since hst.K
    by_cases htl : t < n + 1
    · have hti : (t : Int) < (n : Int) + 1 := by omega
      obtain ⟨hno, hrk⟩ := HGs.out t
      obtain ⟨s, hs⟩ : ∃ s, (kT p t).rooms.getD r stNew = s := ⟨_, rfl⟩
      have HS : Hid ((kT p t).rooms.getD r stNew = s) := hs
      have hS := C.state r hst.K (kT_ok hp t) hp
      rw [hno, hrk, hs] at hS
      have HT : Hid (Calls Tryz.prog 40 #[.pointer (some ⟨kb, 0, none⟩), .int .i64 r] wr fun e w2 => e = .returned (.tuple #[.agg #[.int .i64 s.p, .int .i64 (s.c 0), .int .i64 (s.c 1), .int .i64 (s.c 2), .int .i64 (s.c 3), .int .i64 (s.c 4), .int .i64 (s.c 5), .bool s.f], .nilIface]) ∧ Below wr.heap.size wr w2) := hS
      have HR : Hid (SRn C W0 wr p (.slice ca p.code.length cc) (.slice sa p.spans.length sc) (.slice wa p.wires.length wc') kb w1.heap.size r t (.slice vo vn vk) F') := hst
      have hown0 := hst.own
      have hB2 := hst.B2
      clear hS hs hst hno hrk
      go_upto_region 9 with fail
      go_cut [11, 12, 30] from 30 to 47 (fun s11 s12 s30 wx => s12 = .nilIface ∧ s30 = .int .i64 t ∧ ∃ g, s11 = .pointer (some ⟨g, 0, none⟩) ∧ StC wx g 0 s ∧ Below wr.heap.size wr wx)
      case first =>
        go_wp2_with (go_at_call 40; refine HT.out.mono ?_; rintro e w2 ⟨rfl, b2⟩)
        go_meet
        case rel =>
          refine ⟨rfl, rfl, w2.heap.size, rfl, ?_, ?_⟩
          · constructor <;> simp [go_sem]
          · have hs2 := b2.size
            repeat' first | exact b2 | refine Below.drew ?_ | refine Below.alloc ?_ (by first | omega | (simp; omega)) _ | refine Below.setCell ?_ (by first | omega | (simp; omega)) _
      case rest =>
        obtain ⟨rfl, rfl, g, rfl, hsc, hbc⟩ := hcut
        obtain ⟨q0, q1, q2, q3, q4, q5, q6, q7⟩ := hsc
        have own3 := own_block hown0 (fun k hk => hbc.block k (hown0.lt k hk).2)
        have hsz := hbc.size
        clear HT hown0
        go_wp2_with (at_builtin; refine wpList_append_at _ rfl _ _ 35 rfl w1.heap.size 39 jj _ 8 64 Tryz.underlying35 hj hy0 hy1 hy2 rfl (by decide) _ _ _ rfl (own3.alloc _) ⟨wc.heap.size, 0, none⟩ 1 1 [.int .i64 s.p, .int .i64 (s.c 0), .int .i64 (s.c 1), .int .i64 (s.c 2), .int .i64 (s.c 3), .int .i64 (s.c 4), .int .i64 (s.c 5), .bool s.f] rfl rfl ?c1A ?c2A ?c3A ?c4A ?c5A ?_)
        try (case c1A => exact st_new rfl s _)
        case c2A => first | exact st_one s | exact ⟨rfl, rfl, rfl, rfl, rfl, rfl, rfl, rfl⟩
        case c3A => unfold maxLen; omega
        case c4A => omega
        case c5A => first | omega | (simp; omega)
        intro v1 w8 own8 hg8 hnw8
        have hb3 : Below wr.heap.size wr (wc.alloc (.cells #[.int .i64 s.p, .int .i64 (s.c 0), .int .i64 (s.c 1), .int .i64 (s.c 2), .int .i64 (s.c 3), .int .i64 (s.c 4), .int .i64 (s.c 5), .bool s.f] 39)) := hbc.alloc hbc.size _
        have HQ : Hid (Calls Tryz.prog 41 #[.pointer (some ⟨kb, 0, none⟩)] w8 fun e w' => ∃ a b c d, e = .returned (.agg #[.int .i64 a, .int .i64 b, .int .i64 c, .int .i64 d]) ∧ ∃ F', SRn C W0 w' p (.slice ca p.code.length cc) (.slice sa p.spans.length sc) (.slice wa p.wires.length wc') kb w1.heap.size r (t + 1) v1 F') := HR.out.more HS.out hb3 hg8 own8 (fun g hg => by have := hnw8 g hg; simpa using this) HG.out hp (by omega)
        obtain ⟨g8, cap8, rfl⟩ := own_succ own8
        clear own8 hg8 hnw8 own3 q0 q1 q2 q3 q4 q5 q6 q7 hb3
        go_wp2_with (go_at_call 41; refine HQ.out.mono ?_; rintro e w9 ⟨ea, eb, ec, ed, rfl, F9, hst9⟩)
        go_roundw
        case rel => exact ⟨t + 1, F9, by omega, by go_num, hst9⟩
        case measure => simp [intOf]; omega
    · obtain rfl : t = n + 1 := by omega
      have hti : decide (((n + 1 : Nat) : Int) < (n : Int) + 1) = false := decide_eq_false (by omega)
      have HS : Hid (StL wr (.slice vo vn vk) (statesK p n r)) := StL.own (by rw [statesK_len]; exact hst.own)
      have HB' : Hid (Below W.heap.size W wr) := hA.trans (hbw.mono hA.size)
      clear hst
      go_wp2
      go_ret2
      exact ⟨_, rfl, HS.out, HB'.out⟩
/-- Run does what the laws of sight ask of it. -/
theorem sgt_run {G : World → Prop} (C : KerC G) : SgtRun G := fun p vc vs vw n r W hG hP => by
  by_cases hp : plchk p = 0
  · by_cases hn : n < 0 ∨ 2000 < n
    · have he : runE p n r = 1 := by
        unfold runE
        rw [if_pos hp, if_pos (by omega)]
      rw [he]
      refine (srun_n C p vc vs vw n r W hG hP hp hn).mono ?_
      rintro e w' ⟨rfl, hb⟩
      exact ⟨_, rfl, Or.inl ⟨rfl, _, _, rfl⟩, hb⟩
    · obtain ⟨n, rfl⟩ : ∃ m : Nat, n = m := ⟨n.toNat, by omega⟩
      by_cases hr : r < 0 ∨ (p.code.length : Int) ≤ r
      · have he : runE p n r = 1 := by
          unfold runE
          rw [if_pos hp, if_pos (by omega)]
        rw [he]
        refine (srun_room C p vc vs vw n r W hG hP hp (by omega) hr).mono ?_
        rintro e w' ⟨rfl, hb⟩
        exact ⟨_, rfl, Or.inl ⟨rfl, _, _, rfl⟩, hb⟩
      · obtain ⟨r, rfl⟩ : ∃ m : Nat, r = m := ⟨r.toNat, by omega⟩
        have he : runE p n r = 0 := by
          unfold runE
          rw [if_pos hp, if_neg (by omega)]
        rw [he, if_pos rfl, Int.toNat_natCast, Int.toNat_natCast]
        exact srun_ok C p vc vs vw n r W hG hP hp (by omega) (by omega)
  · have he : runE p n r = plchk p := by
      unfold runE
      rw [if_neg hp]
    rw [he, if_neg hp]
    refine (srun_wrong C p vc vs vw n r W hG hP hp).mono ?_
    rintro e w' ⟨rfl, hb⟩
    exact ⟨_, rfl, Or.inl ⟨rfl, _, _, rfl⟩, hb⟩
end Go.Proofs.YtajfgmlockjmhaeGreatDoor
