/-
  StRow, RLaid, FHold, Fits, Check, RoomBase, RoomParts, RoomNew: joined into one text.
-/
import Derived.Test.YtfconbblnmbnpafDoorJa1
import Derived.ProofKit
import Derived.LaidMore
import Derived.OpenShut
import Derived.Stop.Joined
import Derived.Stop.LaidErr
import Derived.Lib.LaidTab
namespace Go.Proofs.YtfconbblnmbnpafDoor
open Go.RowKit

/-- States as cells. -/
def stCells (l : List St) : List Value := l.flatMap fun s => [.int .i64 s.p, .int .i64 (s.c 0), .int .i64 (s.c 1), .int .i64 (s.c 2), .int .i64 (s.c 3), .int .i64 (s.c 4), .int .i64 (s.c 5), .bool s.f]
theorem stCells_snoc (l : List St) (s : St) : stCells (l ++ [s]) = stCells l ++ [.int .i64 s.p, .int .i64 (s.c 0), .int .i64 (s.c 1), .int .i64 (s.c 2), .int .i64 (s.c 3), .int .i64 (s.c 4), .int .i64 (s.c 5), .bool s.f] := by simp [stCells]
theorem stCells_at : ∀ (l : List St) (i : Nat) (s : St), l[i]? = some s → (stCells l)[i * 8]? = some (.int .i64 s.p) ∧ (stCells l)[i * 8 + 1]? = some (.int .i64 (s.c 0)) ∧ (stCells l)[i * 8 + 2]? = some (.int .i64 (s.c 1)) ∧ (stCells l)[i * 8 + 3]? = some (.int .i64 (s.c 2)) ∧ (stCells l)[i * 8 + 4]? = some (.int .i64 (s.c 3)) ∧ (stCells l)[i * 8 + 5]? = some (.int .i64 (s.c 4)) ∧ (stCells l)[i * 8 + 6]? = some (.int .i64 (s.c 5)) ∧ (stCells l)[i * 8 + 7]? = some (.bool s.f)
  | [], i, s, h => by simp at h
  | x :: l, 0, s, h => by simp at h; subst h; simp [stCells]
  | x :: l, i + 1, s, h => by
    have h1 := stCells_at l i s (by simpa using h)
    have e : ∀ j, (stCells (x :: l))[(i + 1) * 8 + j]? = (stCells l)[i * 8 + j]? := fun j => by
      show ([.int .i64 x.p, .int .i64 (x.c 0), .int .i64 (x.c 1), .int .i64 (x.c 2), .int .i64 (x.c 3), .int .i64 (x.c 4), .int .i64 (x.c 5), .bool x.f] ++ stCells l)[(i + 1) * 8 + j]? = _
      rw [List.getElem?_append_right (by simp; omega)]
      congr 1
      simp
      omega
    exact ⟨(e 0).trans h1.1, (e 1).trans h1.2.1, (e 2).trans h1.2.2.1, (e 3).trans h1.2.2.2.1, (e 4).trans h1.2.2.2.2.1, (e 5).trans h1.2.2.2.2.2.1, (e 6).trans h1.2.2.2.2.2.2.1, (e 7).trans h1.2.2.2.2.2.2.2⟩
theorem st_one (s : St) : ∀ u ∈ [Value.int .i64 s.p, .int .i64 (s.c 0), .int .i64 (s.c 1), .int .i64 (s.c 2), .int .i64 (s.c 3), .int .i64 (s.c 4), .int .i64 (s.c 5), .bool s.f], u.oneCell' = true := by
  intro u hu
  simp only [List.mem_cons, List.not_mem_nil, or_false] at hu
  rcases hu with rfl | rfl | rfl | rfl | rfl | rfl | rfl | rfl <;> rfl
theorem st_new {w : World} {k : Nat} (hk : k = w.heap.size) (s : St) (t : TypeId) : ∀ j u, [Value.int .i64 s.p, .int .i64 (s.c 0), .int .i64 (s.c 1), .int .i64 (s.c 2), .int .i64 (s.c 3), .int .i64 (s.c 4), .int .i64 (s.c 5), .bool s.f][j]? = some u → (w.alloc (.cells #[.int .i64 s.p, .int .i64 (s.c 0), .int .i64 (s.c 1), .int .i64 (s.c 2), .int .i64 (s.c 3), .int .i64 (s.c 4), .int .i64 (s.c 5), .bool s.f] t)).cell? ((⟨k, 0, none⟩ : Addr).add j) = some u := by
  intro j u hj
  subst hk
  rw [Addr.add_lit, Nat.zero_add]
  match j, hj with
  | 0, hj => simp at hj; subst hj; simp
  | 1, hj => simp at hj; subst hj; simp
  | 2, hj => simp at hj; subst hj; simp
  | 3, hj => simp at hj; subst hj; simp
  | 4, hj => simp at hj; subst hj; simp
  | 5, hj => simp at hj; subst hj; simp
  | 6, hj => simp at hj; subst hj; simp
  | 7, hj => simp at hj; subst hj; simp
  | j + 8, hj => simp at hj
theorem infoSt : (Tryd.prog.info? 39).map (fun i => (i.zero, i.size, i.bytes)) = some (some (.agg #[.int .i64 0, .int .i64 0, .int .i64 0, .int .i64 0, .int .i64 0, .int .i64 0, .int .i64 0, .bool false]), 8, 64) := by kernel_rfl
end Go.Proofs.YtfconbblnmbnpafDoor
namespace Go.Proofs.YtfconbblnmbnpafDoor
open Go.ChangeShapes Go.WideShapes Go.ChangeAt Go.WideElems Go.RowKit

theorem gForms : Tryd.prog.globalNamed "framekeep/code.forms" = some 1 := by kernel_rfl
theorem tForms : (Tryd.prog.globals[1]?).map (·.type) = some 196 := by kernel_rfl
theorem cStr : Tryd.prog.cellsOf 9 = 1 := by kernel_rfl
theorem cInt : Tryd.prog.cellsOf 3 = 1 := by kernel_rfl
theorem cTwo : Tryd.prog.cellsOf 42 = 2 := by kernel_rfl
theorem cForm : Tryd.prog.cellsOf 195 = 3 := by kernel_rfl

theorem len2 {α : Type} {l : List α} (h : l.length = 2) : ∃ a b, l = [a, b] := by
  match l, h with
  | [a, b], _ => exact ⟨a, b, rfl⟩
theorem len3 {α : Type} {l : List α} (h : l.length = 3) : ∃ a b c, l = [a, b, c] := by
  match l, h with
  | [a, b, c], _ => exact ⟨a, b, c, rfl⟩
theorem two_one {H : Type} {enc : TypeId × Value → H} {w : World} {base : Nat} {sp : Nat → Bool} {held : Bool} {fuel : Nat} {cs : List Value} {p q : Int} {pl : List MemPlace}
    (h : DataW.trod enc Tryd.prog w base sp held fuel 42 cs = some (.agg [.lit (.int .i64 p), .lit (.int .i64 q)], pl)) : cs = [.int .i64 p, .int .i64 q] := by
  have := Lib.cells_of_tab (k := .i64) (zs := [p, q]) Tryd.underlying42 Tryd.underlying3 cInt cTwo h
  simpa using this
theorem form_one {H : Type} {enc : TypeId × Value → H} {w : World} {base : Nat} {sp : Nat → Bool} {held : Bool} {fuel : Nat} {cs : List Value} {s : List UInt8} {p q : Int} {pl : List MemPlace}
    (h : DataW.trod enc Tryd.prog w base sp held fuel 195 cs = some (.agg [.lit (.string s), .agg [.lit (.int .i64 p), .lit (.int .i64 q)]], pl)) : cs = [.string ⟨s.toArray⟩, .int .i64 p, .int .i64 q] := by
  obtain ⟨xs, n, _, hx, hl, hxl, hf⟩ := DataW.trod_struct Tryd.underlying195 h
  rw [cForm] at hl
  have f0 : DataW.trod enc Tryd.prog w base sp held n 9 ((cs.drop 0).take (Tryd.prog.cellsOf 9)) = xs[0]? := hf 0 _ rfl
  have f1 : DataW.trod enc Tryd.prog w base sp held n 42 ((cs.drop 1).take (Tryd.prog.cellsOf 42)) = xs[1]? := hf 1 _ rfl
  rw [cStr] at f0
  rw [cTwo] at f1
  simp only [Prod.mk.injEq, DataW.agg.injEq] at hx
  obtain ⟨c0, c1, c2, rfl⟩ := len3 hl
  have hxl2 : xs.length = 2 := hxl
  obtain ⟨x0, x1, rfl⟩ := len2 hxl2
  simp only [List.map_cons, List.map_nil, List.cons.injEq, and_true] at hx
  simp at f0 f1
  obtain ⟨y0, z0⟩ := x0
  obtain ⟨y1, z1⟩ := x1
  simp only at hx
  rw [← hx.1.1] at f0
  rw [← hx.1.2] at f1
  obtain ⟨b, hb, hb2, _⟩ := DataW.trod_string Tryd.underlying9 f0
  simp only [Prod.mk.injEq, DataW.lit.injEq, Lit.string.injEq] at hb2
  have h2 := two_one f1
  simp only [List.cons.injEq, and_true] at hb h2
  obtain ⟨rfl, rfl⟩ := h2
  rw [hb, hb2.1]

/-- The rows of the table of forms. -/
def formRows : List (List UInt8 × Int × Int) := [([], 0, 0), ([115, 101, 116], 6, 1000), ([99, 111, 112, 121], 6, 6), ([97, 100, 100], 6, 6), ([115, 117, 98], 6, 6), ([109, 117, 108], 6, 6), ([122, 101, 114, 111], 6, 0), ([106, 117, 109, 112], 1, 0), ([115, 101, 110, 100], 6, 12), ([116, 97, 107, 101], 6, 12), ([114, 101, 115, 116], 1, 1), ([102, 97, 105, 108], 1, 1)]
def formD {H : Type} (r : List UInt8 × Int × Int) : DataW H := .agg [.lit (.string r.1), .agg [.lit (.int .i64 r.2.1), .lit (.int .i64 r.2.2)]]
theorem forms_of_head {W : World} {rest : List (String × DataW Unit)} (h : laidMet Tryd.prog (("framekeep/code.forms", .agg (formRows.map formD)) :: rest) W) : Forms W := by
  obtain ⟨ps, ⟨g', t', cs, fuel, p, q, hg', ht', hvar, hd, _, _⟩, _⟩ := h
  obtain rfl := Option.some.inj (gForms.symm.trans hg')
  obtain rfl := Option.some.inj (tForms.symm.trans ht')
  obtain ⟨xs, m, _, hx, _, hxl, hel⟩ := DataW.trod_array Tryd.underlying196 hd
  simp only [Prod.mk.injEq, DataW.agg.injEq] at hx
  have hrow : ∀ (i : Nat) r, formRows[i]? = some r → (cs.toList.drop (i * 3)).take 3 = [.string ⟨r.1.toArray⟩, .int .i64 r.2.1, .int .i64 r.2.2] := by
    intro i r hr
    have hi : i < 12 := by
      rcases Nat.lt_or_ge i 12 with h | h
      · exact h
      · rw [List.getElem?_eq_none (show formRows.length ≤ i from h)] at hr; cases hr
    have e1 := hel i hi
    rw [cForm] at e1
    have e2 : (xs.map (·.1))[i]? = some (formD r) := by rw [← hx.1]; simp [hr]
    simp only [List.getElem?_map, Option.map_eq_some_iff] at e2
    obtain ⟨⟨y, z⟩, hy, rfl⟩ := e2
    rw [hy] at e1
    exact form_one e1
  have hcell := fun i => World.var?_cell hg' hvar i
  have hat : ∀ (i j : Nat) r u, formRows[i]? = some r → j < 3 → ([.string ⟨r.1.toArray⟩, .int .i64 r.2.1, .int .i64 r.2.2] : List Value)[j]? = some u → W.cell? ⟨1, i * 3 + j, none⟩ = some u := by
    intro i j r u hr hj hu
    rw [← hrow i r hr] at hu
    rw [List.getElem?_take, if_pos hj, List.getElem?_drop] at hu
    rw [hcell]
    simpa using hu
  intro i v hv
  have hi : i < 36 := by
    rcases Nat.lt_or_ge i 36 with h | h
    · exact h
    · rw [List.getElem?_eq_none (show formsCells.length ≤ i from h)] at hv; cases hv
  have key : ∀ i, i < 36 → ∀ v, formsCells[i]? = some v → ∃ r, formRows[i / 3]? = some r ∧ ([.string ⟨r.1.toArray⟩, .int .i64 r.2.1, .int .i64 r.2.2] : List Value)[i % 3]? = some v := by
    intro i hi v hv
    match i, hi with
    | 0, _ | 1, _ | 2, _ | 3, _ | 4, _ | 5, _ | 6, _ | 7, _ | 8, _ | 9, _ | 10, _ | 11, _ | 12, _ | 13, _ | 14, _ | 15, _ | 16, _ | 17, _ | 18, _ | 19, _ | 20, _ | 21, _ | 22, _ | 23, _ | 24, _ | 25, _ | 26, _ | 27, _ | 28, _ | 29, _ | 30, _ | 31, _ | 32, _ | 33, _ | 34, _ | 35, _ => exact ⟨_, rfl, hv⟩
    | i + 36, h => omega
  obtain ⟨r, h1, h2⟩ := key i hi v hv
  have := hat (i / 3) (i % 3) r v h1 (Nat.mod_lt _ (by decide)) h2
  rwa [show i / 3 * 3 + i % 3 = i by omega] at this
end Go.Proofs.YtfconbblnmbnpafDoor
namespace Go.Proofs.YtfconbblnmbnpafDoor
open Go.RowKit

set_option maxRecDepth 100000 in
set_option maxHeartbeats 1000000 in
theorem hit_any (s : S3) (tb : Nat) (t : Int) (w : World) (ht : w.cell? ⟨tb, 0, none⟩ = some (.int .i64 t)) :
    Calls Tryd.prog 106 #[.agg #[.int .i64 s.1, .int .i64 s.2.1, .int .i64 s.2.2], .pointer (some ⟨tb, 0, none⟩)] w fun e w' => e = .returned (.bool (hits t s)) ∧ Below w.heap.size w w' := by
  have hlt := ltc ht
  have hn : tb ≠ w.heap.size := by omega
  obtain ⟨a, b, r⟩ := s
  simp only
  by_cases h1 : a ≤ t
  · by_cases h2 : t < b
    · have HF : Hid (hits t (a, b, r) = true) := by show _ = _; simp [hits, h1, h2]
      go_enter Tryd.func106, Tryd.ntmps106
      go_wp2
      go_ret
      exact ⟨retB HF.out.symm, (Below.refl _ _).alloc (Nat.le_refl _) _⟩
    · have h2' : decide (t < b) = false := by simpa using h2
      have HF : Hid (hits t (a, b, r) = false) := by show _ = _; simp [hits, h2]
      go_enter Tryd.func106, Tryd.ntmps106
      go_wp2
      go_ret
      exact ⟨retB HF.out.symm, (Below.refl _ _).alloc (Nat.le_refl _) _⟩
  · have h1' : decide (a ≤ t) = false := by simpa using h1
    have HF : Hid (hits t (a, b, r) = false) := by show _ = _; simp [hits, h1]
    go_enter Tryd.func106, Tryd.ntmps106
    go_wp2
    go_ret
    exact ⟨retB HF.out.symm, (Below.refl _ _).alloc (Nat.le_refl _) _⟩

theorem hidx_some {l : List S3} {t : Int} {k : Nat} (h : l.findIdx? (hits t) = some k) : hidx l t = k := by unfold hidx; rw [h]
theorem hidx_none {l : List S3} {t : Int} (h : l.findIdx? (hits t) = none) : hidx l t = -1 := by unfold hidx; rw [h]

set_option maxRecDepth 100000 in
set_option maxHeartbeats 2000000 in
theorem idxHold (l : List S3) (t : Int) (b off cap tb : Nat) (w : World) (ht : w.cell? ⟨tb, 0, none⟩ = some (.int .i64 t)) (hlen : l.length ≤ 12) (hlt : b < w.heap.size) (hc : SpC w b off l) :
    Calls Tryd.prog 95 #[.slice (some ⟨b, off, none⟩) l.length cap, .func (.func 106) #[] #[.pointer (some ⟨tb, 0, none⟩)]] w fun e w' =>
      e = .returned (.int .i64 (hidx l t)) ∧ Below w.heap.size w w' := by
  have hlt1 := ltc ht
  go_enter Tryd.func95, Tryd.ntmps95
  go_wp2
  go_loopw [8] (fun i wr => ∃ k : Nat, k ≤ l.length ∧ i = .int .i64 k ∧ (∀ (j : Nat) x, j < k → l[j]? = some x → hits t x = false) ∧ Below w.heap.size w wr) (fun i _ => l.length - (intOf i).toNat)
  case atStart => exact ⟨0, Nat.zero_le _, rfl, fun j x hj => by omega, Below.refl _ _⟩
  case round =>
    obtain ⟨k, hk, rfl, hall, hb⟩ := hrel
    have e1 : wr.cell? ⟨tb, 0, none⟩ = some (.int .i64 t) := (hb.cell (p := ⟨tb, 0, none⟩) hlt1).trans ht
    have Hall : Hid (∀ (j : Nat) x, j < k → l[j]? = some x → hits t x = false) := hall
    clear hall
    by_cases hkl : k < l.length
    · obtain ⟨o, ho⟩ : ∃ o, l[k]? = some o := ⟨l[k], List.getElem?_eq_getElem hkl⟩
      have HO : Hid (l[k]? = some o) := ho
      obtain ⟨c0, c1, c2⟩ := hc.below hb hlt k o ho
      clear ho
      have hon := hit_any o tb t wr e1
      clear e1
      cases hok : hits t o with
      | false =>
        have HN : Hid (hits t o = false) := hok
        rw [hok] at hon
        clear hok
        go_wp2_with (go_at_call 106; refine hon.mono ?_; rintro e w1 ⟨rfl, b1⟩; clear hon)
        go_roundw
        case rel =>
          refine ⟨k + 1, by omega, by go_num, fun j x hj hx => ?_, hb.trans (b1.mono hb.size)⟩
          by_cases hjk : j < k
          · exact Hall.out j x hjk hx
          · obtain rfl : j = k := by omega
            rw [HO.out] at hx
            obtain rfl := Option.some.inj hx
            exact HN.out
        case measure => simp [intOf]; omega
      | true =>
        have HF : Hid (l.findIdx? (hits t) = some k) := fidx_hit Hall.out HO.out hok
        rw [hok] at hon
        clear hok
        go_wp2_with (go_at_call 106; refine hon.mono ?_; rintro e w1 ⟨rfl, b1⟩; clear hon)
        go_ret
        exact ⟨retI (hidx_some HF.out).symm, hb.trans (b1.mono hb.size)⟩
    · have HF : Hid (l.findIdx? (hits t) = none) := fidx_miss (fun i x hi hx => Hall.out i x (by omega) hx)
      clear e1
      go_wp2
      go_ret
      exact ⟨retI (hidx_none HF.out).symm, hb⟩
set_option maxRecDepth 100000 in
set_option maxHeartbeats 2000000 in
theorem idxHold_nil (fn : Value) (a : Option Addr) (cap : Nat) (w : World) :
    Calls Tryd.prog 95 #[.slice a 0 cap, fn] w fun e w' => e = .returned (.int .i64 (-1)) ∧ Below w.heap.size w w' := by
  go_enter Tryd.func95, Tryd.ntmps95
  go_wp2
  refine wp_loop_rounds 1 ?_
  rw [rounds_succ]
  go_wp2
  go_ret
  exact ⟨rfl, Below.refl _ _⟩

set_option maxRecDepth 100000 in
set_option maxHeartbeats 2000000 in
theorem holder_nil (a : Option Addr) (cap : Nat) (t : Int) (w : World) :
    Calls Tryd.prog 86 #[.slice a 0 cap, .int .i64 t] w fun e w' => e = .returned (.int .i64 (-1)) ∧ Below w.heap.size w w' := by
  have hI := fun fn W => idxHold_nil fn a cap W
  go_enter Tryd.func86, Tryd.ntmps86
  go_wp2_with (go_at_call 95; refine (hI _ _).mono ?_; rintro e w1 ⟨rfl, b1⟩; clear hI)
  go_ret
  exact ⟨rfl, ((Below.refl _ _).alloc (Nat.le_refl _) _).trans (b1.mono (by simp))⟩
set_option maxRecDepth 100000 in
set_option maxHeartbeats 2000000 in
theorem holder_some (l : List S3) (b off cap : Nat) (t : Int) (w : World) (hlen : l.length ≤ 12) (hlt : b < w.heap.size) (hc : SpC w b off l) :
    Calls Tryd.prog 86 #[.slice (some ⟨b, off, none⟩) l.length cap, .int .i64 t] w fun e w' => e = .returned (.int .i64 (hold l t)) ∧ Below w.heap.size w w' := by
  have b0 : Below w.heap.size w (w.alloc (.cells #[.int .i64 t] 3)) := (Below.refl _ _).alloc (Nat.le_refl _) _
  have hI := idxHold l t b off cap w.heap.size (w.alloc (.cells #[.int .i64 t] 3)) (by simp) hlen (Nat.lt_of_lt_of_le hlt b0.size) (hc.below b0 hlt)
  cases hfi : l.findIdx? (hits t) with
  | none =>
    have HF : Hid (hold l t = -1) := hold_none hfi
    rw [hidx_none hfi] at hI
    clear hfi
    go_enter Tryd.func86, Tryd.ntmps86
    go_wp2_with (go_at_call 95; refine hI.mono ?_; rintro e w1 ⟨rfl, b1⟩; clear hI)
    go_ret
    exact ⟨retI HF.out.symm, b0.trans (b1.mono (by simp))⟩
  | some k =>
    have hk : k < l.length := by
      rw [List.findIdx?_eq_some_iff_getElem] at hfi
      exact hfi.1
    obtain ⟨o, ho⟩ : ∃ o, l[k]? = some o := ⟨l[k], List.getElem?_eq_getElem hk⟩
    have HF : Hid (hold l t = o.2.2) := hold_some hfi ho
    rw [hidx_some hfi] at hI
    obtain ⟨c0, c1, c2⟩ := hc.below b0 hlt k o ho
    have hlt' : b < (w.alloc (.cells #[.int .i64 t] 3)).heap.size := Nat.lt_of_lt_of_le hlt b0.size
    clear hfi ho
    go_enter Tryd.func86, Tryd.ntmps86
    go_wp2_with (go_at_call 95; refine hI.mono ?_; rintro e w1 ⟨rfl, b1⟩; clear hI; have d2 := (b1.cell (p := ⟨b, _, none⟩) hlt').trans c2; clear c0 c1 c2)
    go_ret
    exact ⟨retI HF.out.symm, b0.trans (b1.mono (by simp))⟩
theorem holder_any (l : List S3) (v : Value) (t : Int) (w : World) (hl : Sps w v l) (hlen : l.length ≤ 12) :
    Calls Tryd.prog 86 #[v, .int .i64 t] w fun e w' => e = .returned (.int .i64 (hold l t)) ∧ Below w.heap.size w w' := by
  rcases hl with ⟨rfl, ao, cap, rfl⟩ | ⟨b, off, cap, rfl, _, hlt, hc⟩
  · exact holder_nil ao cap t w
  · exact holder_some l b off cap t w hlen hlt hc
end Go.Proofs.YtfconbblnmbnpafDoor
namespace Go.Proofs.YtfconbblnmbnpafDoor
open Go.RowKit

theorem ix0 (x y : Int) (w : World) : (Instr.index 42 (.agg #[.int .i64 x, .int .i64 y]) (.int .i64 0)).run Tryd.prog w = .ok (.int .i64 x) w := by kernel_rfl
theorem ix1 (x y : Int) (w : World) : (Instr.index 42 (.agg #[.int .i64 x, .int .i64 y]) (.int .i64 1)).run Tryd.prog w = .ok (.int .i64 y) w := by kernel_rfl

def bd (p ops : Int) : Int := if p = 0 then ops else p
def fit2 (p q a b ops : Int) : Bool := decide (0 ≤ a ∧ a < bd p ops ∧ 0 ≤ b ∧ b < bd q ops)
theorem bd_zero (ops : Int) : bd 0 ops = ops := rfl
theorem bd_not {p : Int} (h : p ≠ 0) (ops : Int) : bd p ops = p := by simp [bd, h]
theorem fit2_no1 {p q a b ops : Int} (h : a < 0 ∨ bd p ops ≤ a) : fit2 p q a b ops = false := by unfold fit2; simp only [decide_eq_false_iff_not]; omega
theorem fit2_no2 {p q a b ops : Int} (h : b < 0 ∨ bd q ops ≤ b) : fit2 p q a b ops = false := by unfold fit2; simp only [decide_eq_false_iff_not]; omega
theorem fit2_yes {p q a b ops : Int} (h1 : 0 ≤ a) (h2 : a < bd p ops) (h3 : 0 ≤ b) (h4 : b < bd q ops) : fit2 p q a b ops = true := by unfold fit2; simp only [decide_eq_true_eq]; omega

set_option maxRecDepth 100000 in
set_option maxHeartbeats 4000000 in
theorem fits_at (n : Nat) (a b ops p q : Int) (h1 : 1 ≤ n) (h2 : n ≤ 11) (w : World) (c1 : w.cell? ⟨1, n * 3 + 1, none⟩ = some (.int .i64 p)) (c2 : w.cell? ⟨1, n * 3 + 2, none⟩ = some (.int .i64 q)) :
    Calls Tryd.prog 98 #[.agg #[.int .i64 n, .int .i64 a, .int .i64 b], .int .i64 ops] w fun e w' => e = .returned (.bool (fit2 p q a b ops)) ∧ Below w.heap.size w w' := by
  have hlt := lt_of_cell c1
  have i0 := ix0 a b
  have i1 := ix1 a b
  go_enter Tryd.func98, Tryd.ntmps98
  go_wp2
  clear c1 c2
  go_loop [27] (fun i => i = .int .i64 0 ∨ (i = .int .i64 1 ∧ 0 ≤ a ∧ a < bd p ops) ∨ (i = .int .i64 2 ∧ 0 ≤ a ∧ a < bd p ops ∧ 0 ≤ b ∧ b < bd q ops)) (fun i => 2 - (intOf i).toNat)
  case atStart => exact Or.inl rfl
  case round =>
    rcases hrel with rfl | ⟨rfl, ha0, ha1⟩ | ⟨rfl, ha0, ha1, hb0, hb1⟩
    · by_cases hp : p = 0
      · subst hp
        by_cases hA : 0 ≤ a ∧ a < ops
        · obtain ⟨hA1, hA2⟩ := hA
          go_wp2
          go_round
          case rel => exact Or.inr (Or.inl ⟨rfl, hA1, by rw [bd_zero]; exact hA2⟩)
          case measure => simp [intOf]
        · go_wp2
          all_goals first | (go_ret; exact ⟨ret_bool (fit2_no1 (by rw [bd_zero]; omega)).symm, ((Below.refl _ _).alloc (Nat.le_refl _) _).alloc (by simp) _⟩) | (exfalso; omega)
      · have hp' : (p == 0) = false := by simpa using hp
        by_cases hA : 0 ≤ a ∧ a < p
        · obtain ⟨hA1, hA2⟩ := hA
          go_wp2
          go_round
          case rel => exact Or.inr (Or.inl ⟨rfl, hA1, by rw [bd_not hp]; exact hA2⟩)
          case measure => simp [intOf]
        · go_wp2
          all_goals first | (go_ret; exact ⟨ret_bool (fit2_no1 (by rw [bd_not hp]; omega)).symm, ((Below.refl _ _).alloc (Nat.le_refl _) _).alloc (by simp) _⟩) | (exfalso; omega)
    · have HA : Hid (0 ≤ a ∧ a < bd p ops) := ⟨ha0, ha1⟩
      clear ha0 ha1
      by_cases hq : q = 0
      · subst hq
        by_cases hB : 0 ≤ b ∧ b < ops
        · obtain ⟨hB1, hB2⟩ := hB
          go_wp2
          go_round
          case rel => exact Or.inr (Or.inr ⟨rfl, HA.out.1, HA.out.2, hB1, by rw [bd_zero]; exact hB2⟩)
          case measure => simp [intOf]
        · go_wp2
          all_goals first | (go_ret; exact ⟨ret_bool (fit2_no2 (by rw [bd_zero]; omega)).symm, ((Below.refl _ _).alloc (Nat.le_refl _) _).alloc (by simp) _⟩) | (exfalso; omega)
      · have hq' : (q == 0) = false := by simpa using hq
        by_cases hB : 0 ≤ b ∧ b < q
        · obtain ⟨hB1, hB2⟩ := hB
          go_wp2
          go_round
          case rel => exact Or.inr (Or.inr ⟨rfl, HA.out.1, HA.out.2, hB1, by rw [bd_not hq]; exact hB2⟩)
          case measure => simp [intOf]
        · go_wp2
          all_goals first | (go_ret; exact ⟨ret_bool (fit2_no2 (by rw [bd_not hq]; omega)).symm, ((Below.refl _ _).alloc (Nat.le_refl _) _).alloc (by simp) _⟩) | (exfalso; omega)
    · have HF := fit2_yes ha0 ha1 hb0 hb1
      clear ha0 ha1 hb0 hb1
      have HF' : Hid (fit2 p q a b ops = true) := HF
      clear HF
      go_wp2
      go_ret
      exact ⟨ret_bool HF'.out.symm, ((Below.refl _ _).alloc (Nat.le_refl _) _).alloc (by simp) _⟩

theorem forms_at {w : World} (hf : Forms w) (n : Nat) (h1 : 1 ≤ n) (h2 : n ≤ 11) : w.cell? ⟨1, n * 3 + 1, none⟩ = some (.int .i64 (pA n)) ∧ w.cell? ⟨1, n * 3 + 2, none⟩ = some (.int .i64 (pB n)) := by
  have h : n = 1 ∨ n = 2 ∨ n = 3 ∨ n = 4 ∨ n = 5 ∨ n = 6 ∨ n = 7 ∨ n = 8 ∨ n = 9 ∨ n = 10 ∨ n = 11 := by omega
  rcases h with rfl | rfl | rfl | rfl | rfl | rfl | rfl | rfl | rfl | rfl | rfl <;> exact ⟨hf _ _ rfl, hf _ _ rfl⟩
theorem fit2_fitsB (n : Nat) (a b ops : Int) (h1 : 1 ≤ n) (h2 : n ≤ 11) : fit2 (pA n) (pB n) a b ops = fitsB n a b ops := by
  have h : n = 1 ∨ n = 2 ∨ n = 3 ∨ n = 4 ∨ n = 5 ∨ n = 6 ∨ n = 7 ∨ n = 8 ∨ n = 9 ∨ n = 10 ∨ n = 11 := by omega
  rcases h with rfl | rfl | rfl | rfl | rfl | rfl | rfl | rfl | rfl | rfl | rfl <;> simp [fit2, fitsB, pA, pB, bA, bB, bd]

set_option maxRecDepth 100000 in
set_option maxHeartbeats 1000000 in
theorem fits_out (n a b ops : Int) (hn : n < 1 ∨ 11 < n) (w : World) :
    Calls Tryd.prog 98 #[.agg #[.int .i64 n, .int .i64 a, .int .i64 b], .int .i64 ops] w fun e w' => e = .returned (.bool (fitsB n a b ops)) ∧ Below w.heap.size w w' := by
  rcases hn with h | h
  · go_enter Tryd.func98, Tryd.ntmps98
    go_wp2
    go_ret
    exact ⟨ret_bool (fitsB_lo h).symm, (Below.refl _ _).alloc (Nat.le_refl _) _⟩
  · have h' : ¬ n < 1 := by omega
    go_enter Tryd.func98, Tryd.ntmps98
    go_wp2
    go_ret
    exact ⟨ret_bool (fitsB_hi h).symm, (Below.refl _ _).alloc (Nat.le_refl _) _⟩

theorem fits_any (n a b ops : Int) (w : World) (hf : Forms w) :
    Calls Tryd.prog 98 #[.agg #[.int .i64 n, .int .i64 a, .int .i64 b], .int .i64 ops] w fun e w' => e = .returned (.bool (fitsB n a b ops)) ∧ Below w.heap.size w w' := by
  by_cases h : 1 ≤ n ∧ n ≤ 11
  · obtain ⟨m, rfl⟩ : ∃ m : Nat, n = m := ⟨n.toNat, by omega⟩
    have hc := forms_at hf m (by omega) (by omega)
    rw [← fit2_fitsB m a b ops (by omega) (by omega)]
    exact fits_at m a b ops _ _ (by omega) (by omega) w hc.1 hc.2
  · exact fits_out n a b ops (by omega) w
end Go.Proofs.YtfconbblnmbnpafDoor
namespace Go.Proofs.YtfconbblnmbnpafDoor
open Go.RowKit

set_option maxRecDepth 100000 in
set_option maxHeartbeats 1000000 in
theorem wrong_any (o : O3) (lb n cap : Nat) (ao : Option Addr) (w : World) (hf : Forms w) (hl : w.cell? ⟨lb, 0, none⟩ = some (.slice ao n cap)) :
    Calls Tryd.prog 97 #[.agg #[.int .i64 o.1, .int .i64 o.2.1, .int .i64 o.2.2], .pointer (some ⟨lb, 0, none⟩)] w fun e w' => e = .returned (.bool (!ok3 n o)) ∧ Below w.heap.size w w' := by
  have hlt := lt_of_cell hl
  have hlt' : lb ≠ w.heap.size := by omega
  go_enter Tryd.func97, Tryd.ntmps97
  go_wp2_with (go_at_call 98; refine (fits_any o.1 o.2.1 o.2.2 n _ (hf.alloc _)).mono ?_)
  rintro e w1 ⟨rfl, b1⟩
  go_wp2
  go_ret
  exact ⟨rfl, ((Below.refl _ _).alloc (Nat.le_refl _) _).trans (b1.mono (by simp))⟩

/-- The place of the first op that does not fit; -1, if none. -/
def fidx (n : Nat) (l : List O3) : Int := match l.findIdx? (fun o => !ok3 n o) with | some i => i | none => -1
theorem fidx_some {n : Nat} {l : List O3} {i : Nat} (h : l.findIdx? (fun o => !ok3 n o) = some i) : fidx n l = i := by unfold fidx; rw [h]
theorem fidx_none {n : Nat} {l : List O3} (h : l.findIdx? (fun o => !ok3 n o) = none) : fidx n l = -1 := by unfold fidx; rw [h]

set_option maxRecDepth 100000 in
set_option maxHeartbeats 2000000 in
theorem indexFunc_some (l : List O3) (b off cap lb n' cap' : Nat) (ao : Option Addr) (w : World) (hf : Forms w) (hl : w.cell? ⟨lb, 0, none⟩ = some (.slice ao n' cap')) (hlen : l.length ≤ 20) (hlt : b < w.heap.size)
    (hc : ∀ (i : Nat) o, l[i]? = some o → w.cell? ⟨b, off + i * 3, none⟩ = some (.int .i64 o.1) ∧ w.cell? ⟨b, off + i * 3 + 1, none⟩ = some (.int .i64 o.2.1) ∧ w.cell? ⟨b, off + i * 3 + 2, none⟩ = some (.int .i64 o.2.2)) :
    Calls Tryd.prog 99 #[.slice (some ⟨b, off, none⟩) l.length cap, .func (.func 97) #[] #[.pointer (some ⟨lb, 0, none⟩)]] w fun e w' =>
      e = .returned (.int .i64 (fidx n' l)) ∧ Below w.heap.size w w' := by
  have hll := lt_of_cell hl
  go_enter Tryd.func99, Tryd.ntmps99
  go_wp2
  go_loopw [8] (fun i wr => ∃ k : Nat, k ≤ l.length ∧ i = .int .i64 k ∧ (∀ (j : Nat) x, j < k → l[j]? = some x → (!ok3 n' x) = false) ∧ Below w.heap.size w wr) (fun i _ => l.length - (intOf i).toNat)
  case atStart => exact ⟨0, Nat.zero_le _, rfl, fun j x hj => by omega, Below.refl _ _⟩
  case round =>
    obtain ⟨k, hk, rfl, hall, hb⟩ := hrel
    have hf' : Forms wr := hf.all hb
    have hl' : wr.cell? ⟨lb, 0, none⟩ = some (.slice ao n' cap') := (hb.cell (p := ⟨lb, 0, none⟩) hll).trans hl
    have Hall : Hid (∀ (j : Nat) x, j < k → l[j]? = some x → (!ok3 n' x) = false) := hall
    clear hall
    by_cases hkl : k < l.length
    · obtain ⟨o, ho⟩ : ∃ o, l[k]? = some o := ⟨l[k], List.getElem?_eq_getElem hkl⟩
      have HO : Hid (l[k]? = some o) := ho
      obtain ⟨c0, c1, c2⟩ := hc k o ho
      clear ho
      have d0 : wr.cell? ⟨b, off + k * 3, none⟩ = some (.int .i64 o.1) := (hb.cell (p := ⟨b, _, none⟩) hlt).trans c0
      have d1 : wr.cell? ⟨b, off + k * 3 + 1, none⟩ = some (.int .i64 o.2.1) := (hb.cell (p := ⟨b, _, none⟩) hlt).trans c1
      have d2 : wr.cell? ⟨b, off + k * 3 + 2, none⟩ = some (.int .i64 o.2.2) := (hb.cell (p := ⟨b, _, none⟩) hlt).trans c2
      clear c0 c1 c2
      go_wp2_with (go_at_call 97; refine (wrong_any o lb n' cap' ao _ hf' hl').mono ?_)
      rintro e w1 ⟨rfl, b1⟩
      have hb1 := hb.trans (b1.mono hb.size)
      by_cases hok : ok3 n' o = true
      · have hok' : (!ok3 n' o) = false := by simp [hok]
        go_wp2
        go_roundw
        case rel =>
          refine ⟨k + 1, by omega, by go_num, fun j x hj hx => ?_, hb1⟩
          by_cases hjk : j < k
          · exact Hall.out j x hjk hx
          · obtain rfl : j = k := by omega
            rw [HO.out] at hx
            obtain rfl := Option.some.inj hx
            exact hok'
        case measure => simp [intOf]; omega
      · have hok' : (!ok3 n' o) = true := by simp [hok]
        have hfi := findIdx_hit (p := fun o => !ok3 n' o) Hall.out HO.out hok'
        have HF : Hid (l.findIdx? (fun o => !ok3 n' o) = some k) := hfi
        clear hfi
        go_wp2
        go_ret
        exact ⟨ret_int (fidx_some HF.out).symm, hb1⟩
    · have HF : Hid (l.findIdx? (fun o => !ok3 n' o) = none) := findIdx_miss (fun i x hi hx => Hall.out i x (by omega) hx)
      clear hf' hl'
      go_wp2
      go_ret
      exact ⟨ret_int (fidx_none HF.out).symm, hb⟩

set_option maxRecDepth 100000 in
set_option maxHeartbeats 1000000 in
theorem check_nil (ao : Option Addr) (cap : Nat) (w : World) :
    Calls Tryd.prog 80 #[.slice ao 0 cap] w fun e w' => e = .returned (.tuple #[.int .i64 0, errV 5]) ∧ Below w.heap.size w w' := by
  go_enter Tryd.func80, Tryd.ntmps80
  go_wp2
  go_ret2
  exact ⟨rfl, (Below.refl _ _).alloc (Nat.le_refl _) _⟩

set_option maxRecDepth 100000 in
set_option maxHeartbeats 1000000 in
theorem check_long (ao : Option Addr) (n cap : Nat) (w : World) (hn : 20 < n) :
    Calls Tryd.prog 80 #[.slice ao n cap] w fun e w' => e = .returned (.tuple #[.int .i64 0, errV 4]) ∧ Below w.heap.size w w' := by
  go_enter Tryd.func80, Tryd.ntmps80
  go_wp2
  go_ret2
  exact ⟨rfl, (Below.refl _ _).alloc (Nat.le_refl _) _⟩

set_option maxRecDepth 100000 in
set_option maxHeartbeats 1000000 in
theorem check_mid (l : List O3) (b off cap : Nat) (w : World) (hf : Forms w) (h0 : l.length ≠ 0) (h1 : ¬ 20 < l.length) (hlt : b < w.heap.size)
    (hc : ∀ (i : Nat) o, l[i]? = some o → w.cell? ⟨b, off + i * 3, none⟩ = some (.int .i64 o.1) ∧ w.cell? ⟨b, off + i * 3 + 1, none⟩ = some (.int .i64 o.2.1) ∧ w.cell? ⟨b, off + i * 3 + 2, none⟩ = some (.int .i64 o.2.2)) :
    Calls Tryd.prog 80 #[.slice (some ⟨b, off, none⟩) l.length cap] w fun e w' => e = .returned (.tuple #[.int .i64 (chk l).1, errV (chk l).2]) ∧ Below w.heap.size w w' := by
  have hb0 : Below w.heap.size w (w.alloc (.cells #[.slice (some ⟨b, off, none⟩) l.length cap] 36)) := (Below.refl _ _).alloc (Nat.le_refl _) _
  have hc' : ∀ (i : Nat) o, l[i]? = some o → (w.alloc (.cells #[.slice (some ⟨b, off, none⟩) l.length cap] 36)).cell? ⟨b, off + i * 3, none⟩ = some (.int .i64 o.1) ∧ (w.alloc (.cells #[.slice (some ⟨b, off, none⟩) l.length cap] 36)).cell? ⟨b, off + i * 3 + 1, none⟩ = some (.int .i64 o.2.1) ∧ (w.alloc (.cells #[.slice (some ⟨b, off, none⟩) l.length cap] 36)).cell? ⟨b, off + i * 3 + 2, none⟩ = some (.int .i64 o.2.2) := fun i o ho => by
    obtain ⟨a0, a1, a2⟩ := hc i o ho
    exact ⟨(hb0.cell (p := ⟨b, _, none⟩) hlt).trans a0, (hb0.cell (p := ⟨b, _, none⟩) hlt).trans a1, (hb0.cell (p := ⟨b, _, none⟩) hlt).trans a2⟩
  have hI := indexFunc_some l b off cap w.heap.size l.length cap (some ⟨b, off, none⟩) _ (hf.all hb0) (by simp) (by omega) (Nat.lt_of_lt_of_le hlt hb0.size) hc'
  clear hc hc' hb0
  have h0' : ¬ ((l.length : Int) = 0) := by omega
  cases hfi : l.findIdx? (fun o => !ok3 l.length o) with
  | some i =>
    have HC : Hid (chk l = ((i : Int), 1)) := chk_bad h0 h1 hfi
    rw [fidx_some hfi] at hI
    clear hfi
    go_enter Tryd.func80, Tryd.ntmps80
    go_wp2_with (go_at_call 99; refine hI.mono ?_)
    rintro e w1 ⟨rfl, b1⟩
    go_wp2
    go_ret2
    rw [HC.out]
    exact ⟨rfl, ((Below.refl _ _).alloc (Nat.le_refl _) _).trans (b1.mono (by simp))⟩
  | none =>
    have HC : Hid (chk l = (0, 0)) := chk_good h0 h1 hfi
    rw [fidx_none hfi] at hI
    clear hfi
    go_enter Tryd.func80, Tryd.ntmps80
    go_wp2_with (go_at_call 99; refine hI.mono ?_)
    rintro e w1 ⟨rfl, b1⟩
    go_wp2
    go_ret2
    rw [HC.out]
    exact ⟨rfl, ((Below.refl _ _).alloc (Nat.le_refl _) _).trans (b1.mono (by simp))⟩

theorem check_any (v : Value) (l : List O3) (w : World) (hf : Forms w) (h : Ops w v l) :
    Calls Tryd.prog 80 #[v] w fun e w' => e = .returned (.tuple #[.int .i64 (chk l).1, errV (chk l).2]) ∧ Below w.heap.size w w' := by
  rcases h with ⟨rfl, ao, cap, rfl⟩ | ⟨b, off, cap, rfl, hlt, hc⟩
  · rw [chk_nil]
    exact check_nil ao cap w
  · by_cases h0 : l.length = 0
    · obtain rfl := List.eq_nil_of_length_eq_zero h0
      rw [chk_nil]
      exact check_nil _ cap w
    · by_cases h1 : 20 < l.length
      · rw [chk_long h1]
        exact check_long _ _ cap w h1
      · exact check_mid l b off cap w hf h0 h1 hlt hc
end Go.Proofs.YtfconbblnmbnpafDoor
namespace Go.Proofs.YtfconbblnmbnpafDoor
open Go.RowKit

/-- The cells of a room as a value. -/
def cellsV (c : Nat → Int) : Value := .agg #[.int .i64 (c 0), .int .i64 (c 1), .int .i64 (c 2), .int .i64 (c 3), .int .i64 (c 4), .int .i64 (c 5)]
/-- A state as a value. -/
def stV (s : St) : Value := .agg #[.int .i64 s.p, .int .i64 (s.c 0), .int .i64 (s.c 1), .int .i64 (s.c 2), .int .i64 (s.c 3), .int .i64 (s.c 4), .int .i64 (s.c 5), .bool s.f]

def outB (n : Int) : Bool := decide (n < 0 ∨ 999 < n)
set_option maxRecDepth 100000 in
set_option maxHeartbeats 1000000 in
theorem outside_any (n : Int) (w : World) : Calls Tryd.prog 58 #[.int .i64 n] w fun e w' => e = .returned (.bool (outB n)) ∧ Below w.heap.size w w' := by
  by_cases h : n < 0
  · go_enter Tryd.func58, Tryd.ntmps58
    go_wp2
    go_ret
    exact ⟨ret_bool (by simp [outB, h]), Below.refl _ _⟩
  · have h' : decide (n < 0) = false := by simpa using h
    by_cases h2 : 1000 ≤ n
    · go_enter Tryd.func58, Tryd.ntmps58
      go_wp2
      go_ret
      exact ⟨ret_bool (by simp [outB]; omega), Below.refl _ _⟩
    · go_enter Tryd.func58, Tryd.ntmps58
      go_wp2
      go_ret
      exact ⟨ret_bool (by simp [outB]; omega), Below.refl _ _⟩

set_option maxRecDepth 100000 in
set_option maxHeartbeats 2000000 in
theorem indexOut (c : Nat → Int) (b off cap : Nat) (w : World) (hlt : b < w.heap.size) (hc : ∀ i : Nat, i < 6 → w.cell? ⟨b, off + i, none⟩ = some (.int .i64 (c i))) :
    Calls Tryd.prog 62 #[.slice (some ⟨b, off, none⟩) 6 cap, .func (.func 58) #[] #[]] w fun e w' =>
      (∃ r : Int, e = .returned (.int .i64 r) ∧ decide (0 ≤ r) = !cellsOk c) ∧ Below w.heap.size w w' := by
  go_enter Tryd.func62, Tryd.ntmps62
  go_wp2
  go_loopw [8] (fun i wr => ∃ k : Nat, k ≤ 6 ∧ i = .int .i64 k ∧ (∀ j : Nat, j < k → outB (c j) = false) ∧ Below w.heap.size w wr) (fun i _ => 6 - (intOf i).toNat)
  case atStart => exact ⟨0, Nat.zero_le _, rfl, fun j hj => by omega, Below.refl _ _⟩
  case round =>
    obtain ⟨k, hk, rfl, hall, hb⟩ := hrel
    have Hall : Hid (∀ j : Nat, j < k → outB (c j) = false) := hall
    clear hall
    by_cases hkl : k < 6
    · have d0 : wr.cell? ⟨b, off + k, none⟩ = some (.int .i64 (c k)) := (hb.cell (p := ⟨b, _, none⟩) hlt).trans (hc k hkl)
      go_wp2_with (go_at_call 58; refine (outside_any (c k) _).mono ?_)
      rintro e w1 ⟨rfl, b1⟩
      have hb1 := hb.trans (b1.mono hb.size)
      by_cases hok : outB (c k) = false
      · go_wp2
        go_roundw
        case rel =>
          refine ⟨k + 1, by omega, by go_num, fun j hj => ?_, hb1⟩
          by_cases hjk : j < k
          · exact Hall.out j hjk
          · obtain rfl : j = k := by omega
            exact hok
        case measure => simp [intOf]; omega
      · have hok' : outB (c k) = true := by simpa using hok
        have HF : Hid (cellsOk c = false) := by
          show _ = _
          apply cellsOk_no
          intro h
          have := h k hkl
          simp [outB] at hok'
          omega
        go_wp2
        go_ret
        exact ⟨⟨_, rfl, by rw [HF.out]; simp⟩, hb1⟩
    · have HF : Hid (cellsOk c = true) := by
        show _ = _
        rw [cellsOk_iff]
        intro i hi
        have := Hall.out i (by omega)
        simp [outB] at this
        omega
      clear hc
      go_wp2
      go_ret
      exact ⟨⟨_, rfl, by rw [HF.out]; simp⟩, hb⟩

set_option maxRecDepth 100000 in
set_option maxHeartbeats 2000000 in
theorem containsOut (c : Nat → Int) (b off cap : Nat) (w : World) (hlt : b < w.heap.size) (hc : ∀ i : Nat, i < 6 → w.cell? ⟨b, off + i, none⟩ = some (.int .i64 (c i))) :
    Calls Tryd.prog 38 #[.slice (some ⟨b, off, none⟩) 6 cap, .func (.func 58) #[] #[]] w fun e w' =>
      e = .returned (.bool (!cellsOk c)) ∧ Below w.heap.size w w' := by
  have h := indexOut c b off cap w hlt hc
  clear hc
  go_enter Tryd.func38, Tryd.ntmps38
  go_wp2_with (go_at_call 62; refine h.mono ?_; rintro e w1 ⟨⟨r, rfl, hr⟩, bb⟩; clear h; have HR : Hid (decide (0 ≤ r) = !cellsOk c) := hr; clear hr)
  go_ret
  exact ⟨ret_bool HR.out, bb⟩
end Go.Proofs.YtfconbblnmbnpafDoor
namespace Go.Proofs.YtfconbblnmbnpafDoor
open Go.RowKit

set_option maxRecDepth 100000 in
set_option maxHeartbeats 1000000 in
theorem sent_no (n a b : Int) (c : Nat → Int) (w : World) (h : n ≠ 8) :
    Calls Tryd.prog 61 #[.agg #[.int .i64 n, .int .i64 a, .int .i64 b], .agg #[.int .i64 (c 0), .int .i64 (c 1), .int .i64 (c 2), .int .i64 (c 3), .int .i64 (c 4), .int .i64 (c 5)]] w fun e w' => e = .returned (.int .i64 (-1)) ∧ Below w.heap.size w w' := by
  have h' : (n == 8) = false := by simpa using h
  go_enter Tryd.func61, Tryd.ntmps61
  go_wp2
  go_ret
  exact ⟨rfl, ((Below.refl _ _).alloc (Nat.le_refl _) _).alloc (by simp) _⟩
set_option maxRecDepth 100000 in
set_option maxHeartbeats 1000000 in
theorem sent_yes (a : Nat) (b : Int) (c : Nat → Int) (w : World) (ha : a ≤ 5) :
    Calls Tryd.prog 61 #[.agg #[.int .i64 8, .int .i64 a, .int .i64 b], .agg #[.int .i64 (c 0), .int .i64 (c 1), .int .i64 (c 2), .int .i64 (c 3), .int .i64 (c 4), .int .i64 (c 5)]] w fun e w' => e = .returned (.int .i64 (c a)) ∧ Below w.heap.size w w' := by
  have h : a = 0 ∨ a = 1 ∨ a = 2 ∨ a = 3 ∨ a = 4 ∨ a = 5 := by omega
  rcases h with rfl | rfl | rfl | rfl | rfl | rfl
  all_goals
    go_enter Tryd.func61, Tryd.ntmps61
    go_wp2
    go_ret
    exact ⟨rfl, ((Below.refl _ _).alloc (Nat.le_refl _) _).alloc (by simp) _⟩
end Go.Proofs.YtfconbblnmbnpafDoor
namespace Go.Proofs.YtfconbblnmbnpafDoor
open Go.RowKit

set_option maxRecDepth 100000 in
set_option maxHeartbeats 1000000 in
theorem new_any (w : World) : Calls Tryd.prog 32 #[] w fun e w' => e = .returned (stV ⟨0, fun _ => 0, false⟩) ∧ Below w.heap.size w w' := by
  go_enter Tryd.func32, Tryd.ntmps32
  go_wp2
  refine bodyPost_ret (v := stV ⟨0, fun _ => 0, false⟩) ?_ rfl ⟨rfl, ?_⟩
  · simp [results, Tryd.results32, go_sem, stV]
  · repeat' first | exact Below.refl _ _ | refine Below.drew ?_ | refine Below.alloc ?_ (by simp <;> omega) _ | refine Below.setCell ?_ (by simp <;> omega) _
end Go.Proofs.YtfconbblnmbnpafDoor
