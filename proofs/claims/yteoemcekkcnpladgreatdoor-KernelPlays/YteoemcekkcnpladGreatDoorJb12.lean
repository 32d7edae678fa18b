/-
  DHeld, GWire: joined into one text.
-/
import Derived.Test.YteoemcekkcnpladGreatDoorJb11
import Derived.Test.YteoemcekkcnpladGreatDoorWHeld
namespace Go.Proofs.YteoemcekkcnpladGreatDoor
open Go.RowKit

theorem dheld_l (base b : Nat) (l : LnD) (u : Value) (w : World) (hx : l.xs.length ≤ 1000000) (hL : Ln w base b l.w.2.2.1 l.w.2.2.2 l.xs l.ls u) :
    Calls Tryz.prog 37 #[.pointer (some ⟨b, 0, none⟩)] w fun e w' => ∃ v, e = .returned (.agg #[v, .int .i64 l.ls]) ∧ Rd w' v l.xs ∧ (∀ g, v.ownBlock = some g → w.heap.size ≤ g ∧ g < w'.heap.size) ∧ Below w.heap.size w w' := by
  refine (held_any base b _ _ l.xs l.ls u w hx hL).mono ?_
  rintro e w' ⟨ao, cap, rfl, h1, h2⟩
  refine ⟨_, rfl, ?_, fun g hg => h1.lt g hg, h2⟩
  rcases h1.2 with ⟨h3, h4⟩ | ⟨g, cap', cur, h3, h4, h5, h6, h7, _⟩
  · rw [h3]
    exact Or.inl ⟨List.length_eq_zero_iff.1 h4, _, _, rfl⟩
  · injection h3 with e1 e2 e3
    subst e1
    subst e3
    refine Or.inr ⟨g, 0, cap, rfl, h6, h7, (Array.getElem?_eq_some_iff.1 h5).1, fun i x hx => ?_⟩
    have := h1.cells (g := g) rfl i (.int .i64 x) (ints_at hx)
    rw [Addr.add_lit] at this
    exact this
end Go.Proofs.YteoemcekkcnpladGreatDoor
namespace Go.Proofs.YteoemcekkcnpladGreatDoor
open Go.RowKit

set_option maxRecDepth 100000 in
set_option maxHeartbeats 4000000 in
theorem gwire_any (p : PD) (k : KD) (kb base : Nat) (a : GW) (i : Int) (w : World) (h : GK w base p k kb a) (hx : ∀ l ∈ k.lines, l.xs.length ≤ 1000000) :
    Calls Tryz.prog 14 #[.pointer (some ⟨kb, 0, none⟩), .int .i64 i] w fun e w' => ∃ u, e = .returned (.tuple #[.agg #[u, .int .i64 (lineK k i).ls], wErr (errB (noLine k i))]) ∧ Rd w' u (lineK k i).xs ∧ (∀ g, u.ownBlock = some g → w.heap.size ≤ g ∧ g < w'.heap.size) ∧ Below w.heap.size w w' := by
  have c4 := h.c4
  have hkb := h.lt.1
  have hnk := World.new_ne w ⟨kb, 4, none⟩ c4
  by_cases hr : 0 ≤ i ∧ i < (k.lines.length : Int)
  · obtain ⟨n, rfl⟩ : ∃ n : Nat, i = n := ⟨i.toNat, by omega⟩
    have hn : n < k.lines.length := by omega
    have hni : (n : Int) < (k.lines.length : Int) := by omega
    have hno : noLine k n = false := by
      unfold noLine
      rw [Bool.or_eq_false_iff]
      exact ⟨decide_eq_false (by omega), decide_eq_false (by omega)⟩
    obtain ⟨b, u, cap, l, hl, hb, hu, hlv, hcap, hptr, hln⟩ := h.lines.at hn
    have hlk : lineK k n = l := by
      unfold lineK
      rw [if_neg (by rw [hno]; decide), Int.toNat_natCast]
      simp [List.getD, hl]
    have hxl := hx l (List.mem_of_getElem? hl)
    rw [hlk, hno]
    rw [hlv] at c4
    have HH : Hid (∀ W, Below w.heap.size w W → Calls Tryz.prog 37 #[.pointer (some ⟨b, 0, none⟩)] W fun e w' => ∃ ao m cu, e = .returned (.agg #[.slice ao m cu, .int .i64 l.ls]) ∧ Rd w' (.slice ao m cu) l.xs ∧ (∀ g, (Value.slice ao m cu).ownBlock = some g → W.heap.size ≤ g ∧ g < w'.heap.size) ∧ Below W.heap.size W w') := fun W hb => by
      refine (dheld_l _ b l u W hxl (hln.below hb)).mono ?_
      rintro e w' ⟨v, rfl, h1, h2, h3⟩
      have hf : ∃ ao m cu, v = .slice ao m cu := by
        rcases h1 with ⟨_, ao, cu, h4⟩ | ⟨g, off, cu, h4, _⟩
        · exact ⟨_, _, _, h4⟩
        · exact ⟨_, _, _, h4⟩
      obtain ⟨ao, m, cu, rfl⟩ := hf
      exact ⟨ao, m, cu, rfl, h1, h2, h3⟩
    have hnl := World.new_ne w ⟨a.lr, n, none⟩ hptr
    have hA : Below w.heap.size w (w.alloc (.cells #[.slice none 0 0, .int .i64 0] 54)) := (Below.refl _ w).alloc (Nat.le_refl _) _
    have dl : (w.alloc (.cells #[.slice none 0 0, .int .i64 0] 54)).cell? ⟨a.lr, n, none⟩ = some (.pointer (some ⟨b, 0, none⟩)) := (hA.cell (p := ⟨a.lr, n, none⟩) (wlt hptr)).trans hptr
    have d4 : (w.alloc (.cells #[.slice none 0 0, .int .i64 0] 54)).cell? ⟨kb, 4, none⟩ = some (.slice (some ⟨a.lr, 0, none⟩) k.lines.length cap) := (hA.cell (p := ⟨kb, 4, none⟩) (wlt c4)).trans c4
    clear h hno hlk hr hx hln hl hu hb hlv
    go_enter Tryz.func14, Tryz.ntmps14
    go_upto_region 3 with (go_at_call 33; refine (kbelow_yes _ _ _ (by omega) hni).mono ?_; rintro e w1 ⟨rfl, hw1⟩; subst hw1)
    clear c4 hptr
    generalize hW : w.alloc (.cells #[.slice none 0 0, .int .i64 0] 54) = WA at hA dl d4 ⊢
    go_cut [4, 5] from 16 to 23 (fun s4 s5 wx => s4 = .pointer (some ⟨w.heap.size, 0, none⟩) ∧ s5 = .nilIface ∧ ∃ v, wx.cell? ⟨w.heap.size, 0, none⟩ = some v ∧ wx.cell? ⟨w.heap.size, 1, none⟩ = some (.int .i64 l.ls) ∧ Rd wx v l.xs ∧ (∀ g, v.ownBlock = some g → w.heap.size + 1 ≤ g ∧ g < wx.heap.size) ∧ Below w.heap.size w wx)
    case first =>
      go_wp2_with (go_at_call 37; refine (HH.out _ hA).mono ?_; rintro e w1 ⟨ao, m, cu, rfl, hrd, hown, hb1⟩; have z0 : w1.cell? ⟨w.heap.size, 0, none⟩ = some (.slice none 0 0) := (hb1.cell (p := ⟨w.heap.size, 0, none⟩) (by rw [← hW]; simp)).trans (by rw [← hW]; simp); have z1 : w1.cell? ⟨w.heap.size, 1, none⟩ = some (.int .i64 0) := (hb1.cell (p := ⟨w.heap.size, 1, none⟩) (by rw [← hW]; simp)).trans (by rw [← hW]; simp); have y0 : w1.frozen? ⟨w.heap.size, 0, none⟩ = false := (hb1.frozen (p := ⟨w.heap.size, 0, none⟩) (by rw [← hW]; simp)).trans (by rw [← hW]; simp); have y1 : w1.frozen? ⟨w.heap.size, 1, none⟩ = false := (hb1.frozen (p := ⟨w.heap.size, 1, none⟩) (by rw [← hW]; simp)).trans (by rw [← hW]; simp))
      go_meet
      case rel =>
        have hWs : WA.heap.size = w.heap.size + 1 := by rw [← hW]; simp
        rw [hWs] at hown
        refine ⟨rfl, rfl, .slice ao m cu, by simp [go_sem, z0], by simp [go_sem, z1], ?_, ?_, ?_⟩
        · refine hrd.block (fun g hg ho => ?_) (by simp)
          have := (hown g ho).1
          rw [Below.heap_setCell _ _ _ _ (show g ≠ w.heap.size by omega), Below.heap_setCell _ _ _ _ (show g ≠ w.heap.size by omega)]
        · simpa using hown
        · exact ((hA.trans (hb1.mono (by omega))).setCell (p := ⟨w.heap.size, 0, none⟩) (by simp) _).setCell (p := ⟨w.heap.size, 1, none⟩) (by simp) _
    case rest =>
      obtain ⟨rfl, rfl, v, z0, z1, hrd, hown, hbl⟩ := hcut
      go_wp2
      refine bodyPost_ret (v := .tuple #[.agg #[v, .int .i64 l.ls], wErr (errB false)]) ?_ rfl ⟨v, rfl, hrd, fun g hg => ⟨by have := (hown g hg).1; omega, (hown g hg).2⟩, hbl⟩
      simp [results, Tryz.results14, go_sem, z0, z1, wErr, errB]
  · have hno : noLine k i = true := by
      unfold noLine
      rw [Bool.or_eq_true]
      by_cases h0 : i < 0
      · exact Or.inl (decide_eq_true h0)
      · exact Or.inr (decide_eq_true (by omega))
    have hlk : lineK k i = LnD.none := by
      unfold lineK
      rw [if_pos hno]
    have hform : ∃ ao cap, a.lv = .slice ao k.lines.length cap := by
      rcases h.lines.lv with ⟨h1, h2⟩ | ⟨cap, h1, _⟩
      · exact ⟨none, 0, by rw [h2, h1]; rfl⟩
      · exact ⟨_, cap, h1⟩
    obtain ⟨ao, cap, hlv⟩ := hform
    rw [hlk, hno]
    rw [hlv] at c4
    clear h hno hlk hlv hx
    go_enter Tryz.func14, Tryz.ntmps14
    go_wp2_with (go_at_call 33; refine (kbelow_no _ _ _ hr).mono ?_; rintro e w1 ⟨rfl, hw1⟩; subst hw1)
    refine bodyPost_ret (v := .tuple #[.agg #[.slice none 0 0, .int .i64 LnD.none.ls], wErr (errB true)]) ?_ rfl ⟨.slice none 0 0, rfl, Or.inl ⟨rfl, _, _, rfl⟩, fun g hg => (by simp [Value.ownBlock] at hg), ?_⟩
    · simp [results, Tryz.results14, go_sem, LnD.none, wErr, errB]
    · repeat' first | exact Below.refl _ _ | refine Below.drew ?_ | refine Below.alloc ?_ (by simp <;> omega) _ | refine Below.setCell ?_ (by simp <;> omega) _
end Go.Proofs.YteoemcekkcnpladGreatDoor
