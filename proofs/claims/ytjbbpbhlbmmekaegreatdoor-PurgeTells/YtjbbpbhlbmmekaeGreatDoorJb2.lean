/-
  FrameOwn, RefFrame2, FlEither, RefFrame, RowL, RdL, FlowOwn, PgHas, PgClone, StEq, Math, RoomMath, StaysMath, WireMath: joined into one text.
-/
import Derived.Test.YtjbbpbhlbmmekaeGreatDoorJb1
import Derived.Deep.QuietTactic
import Derived.BigQuiet
import Derived.WalkSmall
import Derived.Deep.RegionLaw
import Derived.Deep.RegionWith
import Derived.Lib.SliceRun
import Derived.Laws.StructEq
namespace Go.Proofs.YtjbbpbhlbmmekaeGreatDoor
open Go.RowKit

/-- The cells of spans, one behind the other. -/
def spCells (l : List S3) : List Value := l.flatMap fun o => [.int .i64 o.1, .int .i64 o.2.1, .int .i64 o.2.2]
theorem spCells_snoc (l : List S3) (o : S3) : spCells (l ++ [o]) = spCells l ++ [.int .i64 o.1, .int .i64 o.2.1, .int .i64 o.2.2] := by simp [spCells]
theorem spCells_at : ∀ (l : List S3) (i : Nat) (o : S3), l[i]? = some o → (spCells l)[i * 3]? = some (.int .i64 o.1) ∧ (spCells l)[i * 3 + 1]? = some (.int .i64 o.2.1) ∧ (spCells l)[i * 3 + 2]? = some (.int .i64 o.2.2)
  | [], i, o, h => by simp at h
  | x :: l, 0, o, h => by
    simp at h
    subst h
    simp [spCells]
  | x :: l, i + 1, o, h => by
    have := spCells_at l i o (by simpa using h)
    have e : spCells (x :: l) = [.int .i64 x.1, .int .i64 x.2.1, .int .i64 x.2.2] ++ spCells l := by simp [spCells]
    rw [e]
    refine ⟨?_, ?_, ?_⟩
    · rw [List.getElem?_append_right (by simp; omega)]
      simpa [show (i + 1) * 3 - 3 = i * 3 by omega] using this.1
    · rw [List.getElem?_append_right (by simp; omega)]
      simpa [show (i + 1) * 3 + 1 - 3 = i * 3 + 1 by omega] using this.2.1
    · rw [List.getElem?_append_right (by simp; omega)]
      simpa [show (i + 1) * 3 + 2 - 3 = i * 3 + 2 by omega] using this.2.2
theorem sps_of_own {w : World} {base : Nat} {v : Value} {l : List S3} (h : w.ownsRow base 47 3 v l.length (spCells l)) : Sps w v l := by
  have hl := h.lt
  have hcs := @World.ownsRow.cells _ _ _ _ _ _ _ h
  rcases h.2 with ⟨rfl, h0⟩ | ⟨g, cap, cur, rfl, _, _, hcap, _⟩
  · exact Or.inl ⟨List.eq_nil_of_length_eq_zero h0, _, _, rfl⟩
  · have hat : ∀ j u, (spCells l)[j]? = some u → w.cell? ⟨g, j, none⟩ = some u := fun j u hu => by
      have := hcs rfl j u hu
      unfold Addr.add at this
      split at this
      · rename_i h0; subst h0; exact this
      · simpa using this
    refine Or.inr ⟨g, 0, cap, rfl, hcap, (hl g rfl).2, fun i o ho => ?_⟩
    obtain ⟨h1, h2, h3⟩ := spCells_at l i o ho
    exact ⟨by simpa using hat _ _ h1, by simpa using hat _ _ h2, by simpa using hat _ _ h3⟩
theorem own_apart {w : World} {b1 b2 : Nat} {e1 e2 : TypeId} {s1 s2 : Nat} {v1 v2 : Value} {n1 n2 : Nat} {x1 x2 : List Value} (he : e1 ≠ e2) (h1 : w.ownsRow b1 e1 s1 v1 n1 x1) (h2 : w.ownsRow b2 e2 s2 v2 n2 x2) : v1.ownBlock = none ∨ v1.ownBlock ≠ v2.ownBlock := by
  rcases h1.2 with ⟨rfl, _⟩ | ⟨g1, c1, u1, rfl, _, hb1, _⟩
  · exact Or.inl rfl
  · rcases h2.2 with ⟨rfl, _⟩ | ⟨g2, c2, u2, rfl, _, hb2, _⟩
    · exact Or.inr (by simp [Value.ownBlock])
    · refine Or.inr fun e => ?_
      simp only [Value.ownBlock, Option.some.injEq] at e
      subst e
      rw [hb1] at hb2
      simp only [Option.some.injEq, Obj.cells.injEq] at hb2
      exact he hb2.2.1
theorem own_succ {W : World} {base : Nat} {e : TypeId} {size : Nat} {v : Value} {k : Nat} {xs : List Value} (h : W.ownsRow base e size v (k + 1) xs) : ∃ g cap, v = .slice (some ⟨g, 0, none⟩) (k + 1) cap := by
  rcases h.2 with ⟨_, h0⟩ | ⟨g, cap, cur, h1, _⟩
  · omega
  · exact ⟨g, cap, h1⟩
theorem own_form {w : World} {base : Nat} {e : TypeId} {size : Nat} {v : Value} {n : Nat} {xs : List Value} (R : w.ownsRow base e size v n xs) : ∃ g n' cap, v = .slice g n' cap := by
  rcases R.2 with ⟨h, _⟩ | ⟨g, cap, cur, h, _⟩
  · exact ⟨_, _, _, h⟩
  · exact ⟨_, _, _, h⟩
theorem infoOps : (Tryz.prog.info? 51).map (fun i => (i.zero, i.size, i.bytes)) = some (some (.slice none 0 0), 1, 24) := by kernel_rfl
theorem infoSp : (Tryz.prog.info? 47).map (fun i => (i.zero, i.size, i.bytes)) = some (some (.agg #[.int .i64 0, .int .i64 0, .int .i64 0]), 3, 24) := by kernel_rfl
theorem box_grown {W W' : World} {row : Option Nat} (hg : W.grownBy W' row) {b : Nat} (hb : b < W.heap.size) (hne : some b ≠ row) : (∀ o, W'.cell? ⟨b, o, none⟩ = W.cell? ⟨b, o, none⟩) ∧ (∀ o, W'.frozen? ⟨b, o, none⟩ = W.frozen? ⟨b, o, none⟩) :=
  ⟨fun o => World.cell?_of_block (a := ⟨b, o, none⟩) (hg.block b hb hne), fun o => World.frozen?_of_block (a := ⟨b, o, none⟩) (hg.block b hb hne)⟩
theorem sp_new (w : World) (x y z : Value) (t : TypeId) : ∀ j u, [x, y, z][j]? = some u → (w.alloc (.cells #[x, y, z] t)).cell? ((⟨w.heap.size, 0, none⟩ : Addr).add j) = some u := by
  intro j u hj
  match j, hj with
  | 0, hj => simp at hj; subst hj; simp [Addr.add]
  | 1, hj => simp at hj; subst hj; simp [Addr.add]
  | 2, hj => simp at hj; subst hj; simp [Addr.add]
end Go.Proofs.YtjbbpbhlbmmekaeGreatDoor
namespace Go.Proofs.YtjbbpbhlbmmekaeGreatDoor
open Go.RowKit

set_option maxRecDepth 100000 in
set_option maxHeartbeats 1000000 in
theorem refframe_ticks (n : Int) (v : Value) (w : World) (h : n < 1 ∨ 40 < n) :
    Calls Tryz.prog 11 #[.int .i64 n, v] w fun e w' => e = .returned (.tuple #[.int .i64 0, .int .i64 1]) ∧ Below w.heap.size w w' := by
  by_cases h1 : n < 1
  · go_enter Tryz.func11, Tryz.ntmps11
    go_wp2
    go_ret2
    exact ⟨rfl, Below.refl _ _⟩
  · have h1' : decide (n < 1) = false := by simpa using h1
    have h2 : 40 < n := by omega
    go_enter Tryz.func11, Tryz.ntmps11
    go_wp2
    go_ret2
    exact ⟨rfl, Below.refl _ _⟩
set_option maxRecDepth 100000 in
set_option maxHeartbeats 1000000 in
theorem refframe_long (n : Int) (ao : Option Addr) (m cap : Nat) (w : World) (h1 : ¬ n < 1) (h2 : ¬ 40 < n) (hm : 12 < m) :
    Calls Tryz.prog 11 #[.int .i64 n, .slice ao m cap] w fun e w' => e = .returned (.tuple #[.int .i64 0, .int .i64 4]) ∧ Below w.heap.size w w' := by
  have h1' : decide (n < 1) = false := by simpa using h1
  have h2' : decide (40 < n) = false := by simpa using h2
  go_enter Tryz.func11, Tryz.ntmps11
  go_wp2
  go_ret2
  exact ⟨rfl, Below.refl _ _⟩
set_option maxRecDepth 100000 in
set_option maxHeartbeats 1000000 in
theorem refframe_nil (n : Int) (ao : Option Addr) (cap : Nat) (w : World) (h1 : ¬ n < 1) (h2 : ¬ 40 < n) :
    Calls Tryz.prog 11 #[.int .i64 n, .slice ao 0 cap] w fun e w' => e = .returned (.tuple #[.int .i64 0, .int .i64 0]) ∧ Below w.heap.size w w' := by
  have h1' : decide (n < 1) = false := by simpa using h1
  have h2' : decide (40 < n) = false := by simpa using h2
  go_enter Tryz.func11, Tryz.ntmps11
  go_wp2
  refine wp_loop_rounds 1 ?_
  rw [rounds_succ]
  go_wp2
  go_ret2
  exact ⟨rfl, Below.refl _ _⟩
theorem any_take {α : Type} {p : α → Bool} {l : List α} {k : Nat} {o : α} (h : l[k]? = some o) : (l.take (k + 1)).any p = ((l.take k).any p || p o) := by
  obtain ⟨hk, rfl⟩ := List.getElem?_eq_some_iff.1 h
  rw [List.take_succ_eq_append_getElem hk, List.any_append]
  simp
theorem ret_two_f {a b c d : Int} (h : (a, b) = (c, d)) : Ending.returned (.tuple #[.int .i64 c, .int .i64 d]) = .returned (.tuple #[.int .i64 a, .int .i64 b]) := by
  simp only [Prod.mk.injEq] at h
  rw [h.1, h.2]

set_option maxRecDepth 1000000 in
set_option maxHeartbeats 8000000 in
theorem refframe_mid (n : Int) (l : List S3) (b off cap : Nat) (w : World) (h1 : ¬ n < 1) (h2 : ¬ 40 < n) (hl : ¬ 12 < l.length) (hlt : b < w.heap.size) (hc : SpC w b off l) :
    Calls Tryz.prog 11 #[.int .i64 n, .slice (some ⟨b, off, none⟩) l.length cap] w fun e w' => e = .returned (.tuple #[.int .i64 (scan (badAt n l) l.length 0).1, .int .i64 (scan (badAt n l) l.length 0).2]) ∧ Below w.heap.size w w' := by
  have h1' : decide (n < 1) = false := by simpa using h1
  have h2' : decide (40 < n) = false := by simpa using h2
  have h3' : decide (12 < l.length) = false := by simpa using hl
  obtain ⟨R, hR⟩ : ∃ R, R = scan (badAt n l) l.length 0 := ⟨_, rfl⟩
  rw [← hR]
  have HR : Hid (R = scan (badAt n l) l.length 0) := hR
  clear hR
  go_enter Tryz.func11, Tryz.ntmps11
  go_wp2
  go_loopw [6] (fun i wr => ∃ k : Nat, k ≤ l.length ∧ i = .int .i64 k ∧ Hid (scan (badAt n l) l.length 0 = scan (badAt n l) (l.length - k) k) ∧ Below w.heap.size w wr) (fun i _ => l.length - (intOf i).toNat)
  case atStart => exact ⟨0, Nat.zero_le _, rfl, rfl, Below.refl _ _⟩
  case round =>
    rename World => wo
    obtain ⟨k, hk, rfl, HS, hb⟩ := hrel
    by_cases hkl : k < l.length
    · obtain ⟨o, ho⟩ : ∃ o, l[k]? = some o := ⟨l[k], List.getElem?_eq_getElem hkl⟩
      have HO : Hid (l[k]? = some o) := ho
      obtain ⟨c0, c1, c2⟩ := hc.below hb hlt k o ho
      clear ho
      have hki : (k : Int) < (l.length : Int) := by omega
      have bA : Below wo.heap.size wo (wo.alloc (.cells #[.int .i64 o.1, .int .i64 o.2.1, .int .i64 o.2.2] 47)) := (Below.refl _ _).alloc (Nat.le_refl _) _
      have hbA := hb.trans (bA.mono hb.size)
      by_cases hok : spOk n o = true
      · have HK : Hid (spOk n o = true) := hok
        have hok2 : 0 ≤ o.1 ∧ o.1 < o.2.1 ∧ o.2.1 ≤ n ∧ 0 ≤ o.2.2 ∧ o.2.2 < 5 := by simpa [spOk] using hok
        obtain ⟨p1, p2, p3, p4, p5⟩ := hok2
        have q1 : decide (o.1 < 0) = false := by simp; omega
        have q2 : decide (o.2.1 ≤ o.1) = false := by simp; omega
        have q3 : decide (n < o.2.1) = false := by simp; omega
        have q4 : decide (o.2.2 < 0) = false := by simp; omega
        have q5 : decide (4 < o.2.2) = false := by simp; omega
        clear hok p1 p2 p3 p4 p5
        go_wp2
        have HB : Hid (Below wo.heap.size wo (wo.alloc (.cells #[.int .i64 o.1, .int .i64 o.2.1, .int .i64 o.2.2] 47))) := bA
        have HC : Hid (SpC wo b off l) := hc.below hb hlt
        have hlt' : b < wo.heap.size := Nat.lt_of_lt_of_le hlt hb.size
        clear c0 c1 c2 bA q1 q2 q3 q4 q5
        go_loopw [8] (fun i wx => ∃ j : Nat, j ≤ k ∧ i = .int .i64 j ∧ Hid ((l.take j).any (clashB o) = false) ∧ Below (wo.heap.size + 1) (wo.alloc (.cells #[.int .i64 o.1, .int .i64 o.2.1, .int .i64 o.2.2] 47)) wx) (fun i _ => k - (intOf i).toNat)
        case atStart => exact ⟨0, Nat.zero_le _, rfl, by show _ = _; simp, Below.refl _ _⟩
        case round =>
          obtain ⟨j, hj, rfl, HJ, hx⟩ := hrel
          have hbx : Below w.heap.size w wr := hbA.trans (hx.mono (by have := hb.size; omega))
          by_cases hjk : j < k
          · obtain ⟨p, hp⟩ : ∃ p, l[j]? = some p := ⟨l[j]'(by omega), List.getElem?_eq_getElem (by omega)⟩
            have HP : Hid (l[j]? = some p) := hp
            obtain ⟨c0, c1, c2⟩ := ((HC.out.below HB.out hlt').below hx (by omega)) j p hp
            clear hp
            have k0 : wr.cell? ⟨wo.heap.size, 0, none⟩ = some (.int .i64 o.1) := (hx.cell (p := ⟨wo.heap.size, 0, none⟩) (by simp)).trans (by simp)
            have k1 : wr.cell? ⟨wo.heap.size, 1, none⟩ = some (.int .i64 o.2.1) := (hx.cell (p := ⟨wo.heap.size, 1, none⟩) (by simp)).trans (by simp)
            have hji : (j : Int) < (k : Int) := by omega
            have hjl : (j : Int) < (l.length : Int) := by omega
            by_cases g1 : p.1 < o.2.1
            · have g1' : decide (p.1 < o.2.1) = true := by simpa using g1
              by_cases g2 : o.1 < p.2.1
              · have g2' : decide (o.1 < p.2.1) = true := by simpa using g2
                have HF : Hid (R = ((k : Int), 7)) := by
                  have han : (l.take k).any (clashB o) = true := by
                    rw [List.any_eq_true]
                    exact ⟨p, List.mem_take_iff_getElem.2 ⟨j, by omega, (List.getElem?_eq_some_iff.1 HP.out).2⟩, by simp [clashB, g1, g2]⟩
                  have e := badOf_clash HK.out han
                  show _ = _
                  rw [HR.out, scan_hit hkl HS.out (by rw [badAt_some HO.out, e]; decide), badAt_some HO.out, e]
                clear HJ
                go_wp2
                go_quiet (fail)
                go_wp2
                go_ret2
                rw [HF.out]
                exact ⟨rfl, below_drewN hbx _⟩
              · have g2' : decide (o.1 < p.2.1) = false := by simpa using g2
                have HF : Hid ((l.take (j + 1)).any (clashB o) = false) := by
                  show _ = _
                  rw [any_take HP.out, HJ.out]
                  simp [clashB, g2]
                clear HJ
                go_wp2
                go_quiet (fail)
                go_wp2
                go_roundw
                case rel => exact ⟨j + 1, by omega, by go_num, HF.out, below_drewN hx _⟩
                case measure => simp [intOf]; omega
            · have g1' : decide (p.1 < o.2.1) = false := by simpa using g1
              have HF : Hid ((l.take (j + 1)).any (clashB o) = false) := by
                show _ = _
                rw [any_take HP.out, HJ.out]
                simp [clashB, g1]
              clear HJ
              go_wp2
              go_quiet (fail)
              go_wp2
              go_roundw
              case rel => exact ⟨j + 1, by omega, by go_num, HF.out, below_drewN hx _⟩
              case measure => simp [intOf]; omega
          · obtain rfl : j = k := by omega
            have HF : Hid (scan (badAt n l) l.length 0 = scan (badAt n l) (l.length - (j + 1)) (j + 1)) := by
              show _ = _
              exact scan_next hkl HS.out (by rw [badAt_some HO.out]; exact badOf_none HK.out HJ.out)
            clear HS HJ
            go_wp2
            go_roundw
            case rel => exact ⟨j + 1, by omega, by go_num, HF.out, hbx⟩
            case measure => simp [intOf]; omega
      · have hok' : spOk n o = false := by simpa using hok
        have HF : Hid (R = ((k : Int), 1)) := by
          have e := badOf_range (l := l.take k) hok'
          show _ = _
          rw [HR.out, scan_hit hkl HS.out (by rw [badAt_some HO.out, e]; decide), badAt_some HO.out, e]
        have hno : ¬ (0 ≤ o.1 ∧ o.1 < o.2.1 ∧ o.2.1 ≤ n ∧ 0 ≤ o.2.2 ∧ o.2.2 < 5) := by simpa [spOk] using hok
        clear hok hok' HS HR
        by_cases p1 : o.1 < 0
        · go_wp2
          go_ret2
          rw [HF.out]
          exact ⟨rfl, hbA⟩
        have q1 : decide (o.1 < 0) = false := by simpa using p1
        by_cases p2 : o.2.1 ≤ o.1
        · go_wp2
          go_ret2
          rw [HF.out]
          exact ⟨rfl, hbA⟩
        have q2 : decide (o.2.1 ≤ o.1) = false := by simpa using p2
        by_cases p3 : n < o.2.1
        · go_wp2
          go_ret2
          rw [HF.out]
          exact ⟨rfl, hbA⟩
        have q3 : decide (n < o.2.1) = false := by simpa using p3
        by_cases p4 : o.2.2 < 0
        · go_wp2
          go_ret2
          rw [HF.out]
          exact ⟨rfl, hbA⟩
        have q4 : decide (o.2.2 < 0) = false := by simpa using p4
        have p5 : 4 < o.2.2 := by omega
        go_wp2
        go_ret2
        rw [HF.out]
        exact ⟨rfl, hbA⟩
    · obtain rfl : k = l.length := by omega
      have HF : Hid (R = (0, 0)) := by
        show _ = _
        rw [HR.out]
        exact scan_end HS.out
      clear HS
      go_wp2
      go_ret2
      rw [HF.out]
      exact ⟨rfl, hb⟩
theorem refframe_any (n : Int) (l : List S3) (v : Value) (w : World) (hl : Sps w v l) :
    Calls Tryz.prog 11 #[.int .i64 n, v] w fun e w' => e = .returned (.tuple #[.int .i64 (fchk n l).1, .int .i64 (fchk n l).2]) ∧ Below w.heap.size w w' := by
  by_cases h1 : n < 1 ∨ 40 < n
  · rw [fchk_lo h1]
    exact refframe_ticks n v w h1
  rcases hl with ⟨rfl, ao, cap, rfl⟩ | ⟨b, off, cap, rfl, hcap, hlt, hc⟩
  · rw [fchk_mid h1 (by simp)]
    exact refframe_nil n ao cap w (by omega) (by omega)
  · by_cases h2 : 12 < l.length
    · rw [fchk_long h1 h2]
      exact refframe_long n _ _ cap w (by omega) (by omega) h2
    · rw [fchk_mid h1 h2]
      exact refframe_mid n l b off cap w (by omega) (by omega) h2 hlt hc
end Go.Proofs.YtjbbpbhlbmmekaeGreatDoor
namespace Go.Proofs.YtjbbpbhlbmmekaeGreatDoor
open Go.RowKit

/-- Five in a block. -/
def Rw (w : World) (b : Nat) (M : Nat → Bool) : Prop := ∀ k, k < 5 → w.cell? ⟨b, k, none⟩ = some (.bool (M k)) ∧ w.frozen? ⟨b, k, none⟩ = false
/-- Five as a value. -/
def rwV (M : Nat → Bool) : Value := .agg #[.bool (M 0), .bool (M 1), .bool (M 2), .bool (M 3), .bool (M 4)]
def upto (k : Nat) (A B : Nat → Bool) : Nat → Bool := fun x => if x < k then (A x || B x) else A x
theorem upto_here (k : Nat) (A B : Nat → Bool) : upto k A B k = A k := by simp [upto]
theorem upto_zero (A B : Nat → Bool) : upto 0 A B = A := by funext x; simp [upto]
theorem upto_five (A B : Nat → Bool) {x : Nat} (h : x < 5) : upto 5 A B x = (A x || B x) := by simp [upto, h]
theorem Rw.set {w : World} {b : Nat} {M N : Nat → Bool} (h : Rw w b M) {k : Nat} {c : Bool} (hk : k < 5) (hc : N k = c) (hn : ∀ x, x ≠ k → N x = M x) : Rw (w.setCell ⟨b, k, none⟩ (.bool c)) b N := fun x hx => by
  obtain ⟨h1, h2⟩ := h x hx
  refine ⟨?_, (World.frozen?_setCell _ _ _ _).trans h2⟩
  by_cases he : x = k
  · subst he
    rw [hc]
    simp [go_sem, h1]
  · rw [hn x he, World.cell?_setCell_other _ _ _ _ (by intro e; injection e with _ e2; exact he e2.symm)]
    exact h1
theorem Rw.next {w : World} {b : Nat} {A B : Nat → Bool} {k : Nat} (h : Rw w b (upto k A B)) (hk : k < 5) {c : Bool} (hc : c = (A k || B k)) : Rw (w.setCell ⟨b, k, none⟩ (.bool c)) b (upto (k + 1) A B) :=
  h.set hk (by simp [upto, hc]) (fun x hx => by unfold upto; by_cases h1 : x < k; rw [if_pos (by omega), if_pos h1]; rw [if_neg (by omega), if_neg h1])
theorem Rw.apart {w : World} {b c : Nat} {M : Nat → Bool} (h : Rw w b M) (hne : b ≠ c) (i : Nat) (u : Value) : Rw (w.setCell ⟨c, i, none⟩ u) b M := fun x hx =>
  ⟨(World.cell?_of_block (w := w) (a := ⟨b, x, none⟩) (Below.heap_setCell _ _ _ _ hne)).trans (h x hx).1, (World.frozen?_setCell _ _ _ _).trans (h x hx).2⟩
theorem Rw.new (w : World) (M : Nat → Bool) (t : TypeId) : Rw (w.alloc (.cells #[.bool (M 0), .bool (M 1), .bool (M 2), .bool (M 3), .bool (M 4)] t)) w.heap.size M := by
  refine five ?_ ?_ ?_ ?_ ?_ <;> simp
theorem Rw.new_at {w : World} {b : Nat} (hb : b = w.heap.size) (M : Nat → Bool) (t : TypeId) : Rw (w.alloc (.cells #[.bool (M 0), .bool (M 1), .bool (M 2), .bool (M 3), .bool (M 4)] t)) b M := by
  subst hb
  exact Rw.new w M t
theorem Rw.alloc {w : World} {b : Nat} {M : Nat → Bool} (h : Rw w b M) (hb : b < w.heap.size) (o : Obj) : Rw (w.alloc o) b M := fun x hx => by
  have hB : Below w.heap.size w (w.alloc o) := (Below.refl _ _).alloc (Nat.le_refl _) _
  exact ⟨(hB.cell (p := ⟨b, _, none⟩) hb).trans (h x hx).1, (hB.frozen (p := ⟨b, _, none⟩) hb).trans (h x hx).2⟩
set_option maxRecDepth 100000 in
theorem index_row (M : Nat → Bool) : ∀ (k : Nat), k < 5 → ∀ w : World, (Instr.index 54 (.agg #[.bool (M 0), .bool (M 1), .bool (M 2), .bool (M 3), .bool (M 4)]) (.int .i64 (k : Int))).run Tryz.prog w = .ok (.bool (M k)) w := by
  refine five ?_ ?_ ?_ ?_ ?_ <;> exact fun _ => by kernel_rfl

set_option maxRecDepth 100000 in
set_option maxHeartbeats 4000000 in
theorem either_any (A B : Nat → Bool) (w : World) :
    Calls Tryz.prog 50 #[rwV A, rwV B] w fun e w' => e = .returned (rwV fun x => A x || B x) ∧ Below w.heap.size w w' := by
  unfold rwV
  go_enter Tryz.func50, Tryz.ntmps50
  go_wp2
  go_loopw [8] (fun i wr => ∃ k : Nat, k ≤ 5 ∧ i = .int .i64 k ∧ Rw wr w.heap.size (upto k A B) ∧ Rw wr (w.heap.size + 2) (fun _ => false) ∧ Below w.heap.size w wr ∧ w.heap.size + 3 ≤ wr.heap.size) (fun i _ => 5 - (intOf i).toNat)
  case atStart =>
    refine ⟨0, Nat.zero_le _, rfl, ?_, ?_, (((Below.refl _ _).alloc (Nat.le_refl _) _).alloc (by simp) _).alloc (by simp; omega) _, by simp⟩
    · rw [upto_zero]
      exact ((Rw.new w A 54).alloc (by simp) _).alloc (by simp; omega) _
    · exact Rw.new_at (by simp) (fun _ => false) 54
  case round =>
    obtain ⟨k, hk, rfl, hM, hZ, hB, hsz⟩ := hrel
    have HM : Hid (Rw wr w.heap.size (upto k A B)) := hM
    have HZ : Hid (Rw wr (w.heap.size + 2) (fun _ => false)) := hZ
    clear hM hZ
    by_cases hk5 : k < 5
    · have hki : (k : Int) < 5 := by omega
      have hix := index_row B k hk5
      obtain ⟨c, f⟩ := HM.out k hk5
      rw [upto_here] at c
      have hA : A k = true ∨ A k = false := by cases A k <;> simp
      rcases hA with hA | hA
      · rw [hA] at c
        have HC : Hid (true = (A k || B k)) := by show _ = _; rw [hA]; rfl
        clear hA
        go_wp2
        go_roundw
        case rel => exact ⟨k + 1, by omega, by go_num, HM.out.next hk5 HC.out, HZ.out.apart (by omega) _ _, hB.setCell (p := ⟨w.heap.size, _, none⟩) (Nat.le_refl _) _, by simpa using hsz⟩
        case measure => simp [intOf]; omega
      · rw [hA] at c
        have HC : Hid (B k = (A k || B k)) := by show _ = _; rw [hA]; rfl
        clear hA
        go_wp2
        go_roundw
        case rel => exact ⟨k + 1, by omega, by go_num, HM.out.next hk5 HC.out, HZ.out.apart (by omega) _ _, hB.setCell (p := ⟨w.heap.size, _, none⟩) (Nat.le_refl _) _, by simpa using hsz⟩
        case measure => simp [intOf]; omega
    · obtain rfl : k = 5 := by omega
      obtain ⟨c0, _⟩ := HM.out 0 (by omega)
      obtain ⟨c1, _⟩ := HM.out 1 (by omega)
      obtain ⟨c2, _⟩ := HM.out 2 (by omega)
      obtain ⟨c3, _⟩ := HM.out 3 (by omega)
      obtain ⟨c4, _⟩ := HM.out 4 (by omega)
      rw [upto_five _ _ (by omega)] at c0 c1 c2 c3 c4
      obtain ⟨d0, f0⟩ := HZ.out 0 (by omega)
      obtain ⟨d1, f1⟩ := HZ.out 1 (by omega)
      obtain ⟨d2, f2⟩ := HZ.out 2 (by omega)
      obtain ⟨d3, f3⟩ := HZ.out 3 (by omega)
      obtain ⟨d4, f4⟩ := HZ.out 4 (by omega)
      clear HM HZ
      go_wp2
      refine bodyPost_ret (v := .agg #[.bool (A 0 || B 0), .bool (A 1 || B 1), .bool (A 2 || B 2), .bool (A 3 || B 3), .bool (A 4 || B 4)]) ?_ rfl ⟨rfl, ?_⟩
      · simp [results, Tryz.results50, go_sem, d0, d1, d2, d3, d4]
      exact ((((hB.setCell (p := ⟨w.heap.size + 2, _, none⟩) (by simp) _).setCell (p := ⟨w.heap.size + 2, _, none⟩) (by simp) _).setCell (p := ⟨w.heap.size + 2, _, none⟩) (by simp) _).setCell (p := ⟨w.heap.size + 2, _, none⟩) (by simp) _).setCell (p := ⟨w.heap.size + 2, _, none⟩) (by simp) _
end Go.Proofs.YtjbbpbhlbmmekaeGreatDoor
namespace Go.Proofs.YtjbbpbhlbmmekaeGreatDoor
open Go.RowKit

set_option maxRecDepth 1000000 in
set_option maxHeartbeats 4000000 in
theorem refwho_some (n : Int) (l : List S3) (b off cap : Nat) (t : Int) (w : World) (hn0 : 1 ≤ n) (hn1 : n ≤ 40) (ht : 0 ≤ t) (hlen : l.length ≤ 12) (hlt : b < w.heap.size) (hc : SpC w b off l) :
    Calls Tryz.prog 55 #[.int .i64 n, .slice (some ⟨b, off, none⟩) l.length cap, .int .i64 t] w fun e w' => e = .returned (.int .i64 (hold l (t % n))) ∧ Below w.heap.size w w' := by
  have hn' : ¬ n = 0 := by omega
  go_enter Tryz.func55, Tryz.ntmps55
  go_wp2
  go_loopw [7] (fun i wr => ∃ k : Nat, k ≤ l.length ∧ i = .int .i64 k ∧ Hid (hold l (t % n) = hold (l.drop k) (t % n)) ∧ Below w.heap.size w wr) (fun i _ => l.length - (intOf i).toNat)
  case atStart => exact ⟨0, Nat.zero_le _, rfl, by show _ = _; simp, Below.refl _ _⟩
  case round =>
    obtain ⟨k, hk, rfl, HS, hb⟩ := hrel
    by_cases hkl : k < l.length
    · obtain ⟨o, ho⟩ : ∃ o, l[k]? = some o := ⟨l[k], List.getElem?_eq_getElem hkl⟩
      have HD : Hid (hold l (t % n) = if hits (t % n) o = true then o.2.2 else hold (l.drop (k + 1)) (t % n)) := HS.out.trans (hold_drop ho)
      obtain ⟨c0, c1, c2⟩ := hc.below hb hlt k o ho
      clear ho HS
      have hki : (k : Int) < (l.length : Int) := by omega
      by_cases h1 : o.1 ≤ t % n
      · by_cases h2 : t % n < o.2.1
        · have HF : Hid (hold l (t % n) = o.2.2) := by show _ = _; rw [HD.out, if_pos (by simp [hits, h1, h2])]
          have h1' : decide (o.1 ≤ t % n) = true := by simpa using h1
          have h2' : decide (t % n < o.2.1) = true := by simpa using h2
          clear HD
          go_wp2
          go_quiet (fail)
          go_wp2
          go_ret
          exact ⟨retI HF.out.symm, below_drewN hb _⟩
        · have HF : Hid (hold l (t % n) = hold (l.drop (k + 1)) (t % n)) := by show _ = _; rw [HD.out, if_neg (by simp [hits, h2])]
          have h1' : decide (o.1 ≤ t % n) = true := by simpa using h1
          have h2' : decide (t % n < o.2.1) = false := by simpa using h2
          clear HD
          go_wp2
          go_quiet (fail)
          go_wp2
          go_roundw
          case rel => exact ⟨k + 1, by omega, by go_num, HF.out, below_drewN hb _⟩
          case measure => simp [intOf]; omega
      · have HF : Hid (hold l (t % n) = hold (l.drop (k + 1)) (t % n)) := by show _ = _; rw [HD.out, if_neg (by simp [hits, h1])]
        have h1' : decide (o.1 ≤ t % n) = false := by simpa using h1
        clear HD
        go_wp2
        go_quiet (fail)
        go_wp2
        go_roundw
        case rel => exact ⟨k + 1, by omega, by go_num, HF.out, below_drewN hb _⟩
        case measure => simp [intOf]; omega
    · obtain rfl : k = l.length := by omega
      have HF : Hid (hold l (t % n) = -1) := by show _ = _; rw [HS.out, List.drop_length]; rfl
      clear HS
      go_wp2
      go_ret
      exact ⟨retI HF.out.symm, hb⟩
set_option maxRecDepth 100000 in
set_option maxHeartbeats 2000000 in
theorem refwho_nil (n : Int) (ao : Option Addr) (cap : Nat) (t : Int) (w : World) :
    Calls Tryz.prog 55 #[.int .i64 n, .slice ao 0 cap, .int .i64 t] w fun e w' => e = .returned (.int .i64 (-1)) ∧ Below w.heap.size w w' := by
  go_enter Tryz.func55, Tryz.ntmps55
  go_wp2
  refine wp_loop_rounds 1 ?_
  rw [rounds_succ]
  go_wp2
  go_ret
  exact ⟨rfl, Below.refl _ _⟩
theorem refwho_any (n : Int) (l : List S3) (v : Value) (t : Int) (w : World) (hl : Sps w v l) (hn0 : 1 ≤ n) (hn1 : n ≤ 40) (ht : 0 ≤ t) (hlen : l.length ≤ 12) :
    Calls Tryz.prog 55 #[.int .i64 n, v, .int .i64 t] w fun e w' => e = .returned (.int .i64 (hold l (t % n))) ∧ Below w.heap.size w w' := by
  rcases hl with ⟨rfl, ao, cap, rfl⟩ | ⟨b, off, cap, rfl, _, hlt, hc⟩
  · exact refwho_nil n ao cap t w
  · exact refwho_some n l b off cap t w hn0 hn1 ht hlen hlt hc
end Go.Proofs.YtjbbpbhlbmmekaeGreatDoor
namespace Go.Proofs.YtjbbpbhlbmmekaeGreatDoor
open Go.RowKit
/-- Numbers as cells. -/
def ints (xs : List Int) : List Value := xs.map (Value.int .i64)
theorem ints_snoc (xs : List Int) (n : Int) : ints (xs ++ [n]) = ints xs ++ [.int .i64 n] := by simp [ints]
theorem ints_len (xs : List Int) : (ints xs).length = xs.length := by simp [ints]
theorem ints_at {xs : List Int} {i : Nat} {x : Int} (h : xs[i]? = some x) : (ints xs)[i]? = some (.int .i64 x) := by simp [ints, h]
/-- A row is as it was where its block is. -/
theorem own_block {w w' : World} {base : Nat} {e : TypeId} {size : Nat} {v : Value} {n : Nat} {xs : List Value} (h : w.ownsRow base e size v n xs) (hb : ∀ k, v.ownBlock = some k → w'.heap[k]? = w.heap[k]?) : w'.ownsRow base e size v n xs := by
  refine ⟨h.1, ?_⟩
  rcases h.2 with h2 | ⟨g, cap, cur, rfl, h3, h4, r⟩
  · exact Or.inl h2
  · exact Or.inr ⟨g, cap, cur, rfl, h3, (hb g rfl).trans h4, r⟩
theorem own_below {w w' : World} {base B : Nat} {e : TypeId} {size : Nat} {v : Value} {n : Nat} {xs : List Value} (h : w.ownsRow base e size v n xs) (hb : Below B w w') (hB : w.heap.size ≤ B) : w'.ownsRow base e size v n xs :=
  own_block h fun k hk => hb.block k (by have := (h.lt k hk).2; omega)
/-- A row that is cut. -/
theorem own_cut {w : World} {base : Nat} {e : TypeId} {g n cap k : Nat} {xs : List Value} (h : w.ownsRow base e 1 (.slice (some ⟨g, 0, none⟩) n cap) n xs) (hk : k ≤ n) : w.ownsRow base e 1 (.slice (some ⟨g, 0, none⟩) k cap) k (xs.take k) := by
  rcases h.2 with ⟨h2, _⟩ | ⟨g', cap', cur, e0, h3, h4, h5, h6, h7, h8⟩
  · cases h2
  · injection e0 with e1 _ e3
    injection e1 with e1
    injection e1 with e1
    subst e1
    subst e3
    refine ⟨by have := h.1; simp at this ⊢; omega, Or.inr ⟨g, cap, cur, rfl, h3, h4, by omega, h6, h7, ?_⟩⟩
    rw [← h8, List.take_take]
    congr 1
    omega
theorem own_cap {w : World} {base : Nat} {e : TypeId} {g n cap : Nat} {xs : List Value} (h : w.ownsRow base e 1 (.slice (some ⟨g, 0, none⟩) n cap) n xs) : base ≤ g ∧ g < w.heap.size ∧ n ≤ cap ∧ cap ≤ maxLen ∧ (∀ i x, xs[i]? = some x → w.cell? ⟨g, i, none⟩ = some x) ∧ (∀ i, i < cap → (w.cell? ⟨g, i, none⟩).isSome = true) ∧ (∀ i, w.frozen? ⟨g, i, none⟩ = false) := by
  have hl := h.lt g rfl
  rcases h.2 with ⟨h2, _⟩ | ⟨g', cap', cur, e0, h3, h4, h5, h6, h7, h8⟩
  · cases h2
  · injection e0 with e1 _ e3
    injection e1 with e1
    injection e1 with e1
    subst e1
    subst e3
    refine ⟨hl.1, hl.2, h5, h6, fun i x hx => ?_, fun i hi => ?_, fun i => by simp [World.frozen?, h4]⟩
    · have := h.cells (g := g) rfl i x hx
      rwa [Addr.add_lit, Nat.zero_add] at this
    · have hi' : i < cur.size := by omega
      simp [World.cell?, h4, hi']
theorem row_form {w : World} {base : Nat} {e : TypeId} {v : Value} {n : Nat} {xs : List Value} (h : w.ownsRow base e 1 v n xs) : (v = .slice none 0 0 ∧ n = 0) ∨ ∃ g cap, v = .slice (some ⟨g, 0, none⟩) n cap := by
  rcases h.2 with h2 | ⟨g, cap, _, rfl, _⟩
  · exact Or.inl h2
  · exact Or.inr ⟨g, cap, rfl⟩
theorem infoInt : (Tryz.prog.info? 3).map (fun i => (i.zero, i.size, i.bytes)) = some (some (.int .i64 0), 1, 8) := by kernel_rfl

theorem one_new (w : World) (x : Value) (t : TypeId) : ∀ j u, [x][j]? = some u → (w.alloc (.cells #[x] t)).cell? ((⟨w.heap.size, 0, none⟩ : Addr).add j) = some u := by
  intro j u hj
  match j, hj with
  | 0, hj => simp at hj; subst hj; simp [Addr.add]
theorem one_new_at {w : World} {k : Nat} (hk : k = w.heap.size) (x : Value) (t : TypeId) : ∀ j u, [x][j]? = some u → (w.alloc (.cells #[x] t)).cell? ((⟨k, 0, none⟩ : Addr).add j) = some u := by
  subst hk
  exact one_new w x t
theorem one_one (n : Int) : ∀ u ∈ [Value.int .i64 n], u.oneCell' = true := by
  intro u hu
  simp at hu
  subst hu
  rfl
/-- append onto a row that the call owns: where the new row lies. -/
theorem wpList_append_at {P : Program} {ops : Array Oper} {rest : List Oper} {o : Oper} {a : Act} {Q : Exit → Act → World → Prop} (w : World) (hgd : o.guard = none) (s x : Operand) (t : TypeId)
    (ho : o.op = .call { callee := .builtin .append, args := #[s, x], argTypes := #[t, t] })
    (base : Nat) (e : TypeId) (i : TypeInfo) (z : Value) (size bytes : Nat) (ht : P.underlying t = some (.slice e)) (hi : P.info? e = some i) (hz : i.zero = some z)
    (hsize : i.size = size) (hby : i.bytes = bytes) (hzs : z.cells.size = size) (hsz : 0 < size)
    (v : Value) (n : Nat) (xs : List Value) (hs : a.eval s = v) (hown : w.ownsRow base e size v n xs)
    (ad : Addr) (m c : Nat) (news : List Value) (hx : a.eval x = .slice (some ad) m c) (hl : news.length = m * size) (hnews : ∀ j u, news[j]? = some u → w.cell? (ad.add j) = some u) (h1 : ∀ u ∈ news, u.oneCell' = true)
    (h63 : n + m ≤ maxLen) (hbytes : (n + m) * bytes ≤ 140737488355328) (hbase : base ≤ w.heap.size)
    (h : ∀ v' w', w'.ownsRow base e size v' (n + m) (xs ++ news) → w.grownBy w' v.ownBlock → (∀ k, v'.ownBlock = some k → v.ownBlock = some k ∨ w.heap.size ≤ k) → wpList P ops Q rest (a.put o.dst v') w') : wpList P ops Q (o :: rest) a w := by
  obtain ⟨v', w', hr, h2, h3, h4⟩ := run_append_own (P := P) w base t o.type e i z size bytes ht hi hz hsize hby hzs hsz v n xs hown ad m c news hl hnews h1 h63 hbytes hbase
  have hw : ∀ k, v'.ownBlock = some k → v.ownBlock = some k ∨ w.heap.size ≤ k := by
    have h63' : n + m ≤ 9223372036854775807 := by simpa [maxLen] using h63
    subst hsize
    subst hby
    intro k hk
    rcases hown.2 with ⟨rfl, rfl⟩ | ⟨g, cap, cur, rfl, hbg, hg, hnc, hcm, hcs, htake⟩
    · by_cases hm : m = 0
      · rw [h4.2 ⟨rfl, hm⟩] at hk
        cases hk
      · have hr2 := run_append_nil (P := P) w t o.type e i z ht hi hz ad m c news hl hnews (by omega) (by omega) (by have hb := hbytes; simp only [Nat.zero_add] at hb; omega)
        rw [hr] at hr2
        injection hr2 with e1 e2
        subst e1
        simp only [Value.ownBlock, Option.some.injEq] at hk
        right
        omega
    · by_cases hroom : n + m ≤ cap
      · have hfit : n * i.size + news.length ≤ cur.size := by rw [hl, hcs, ← Nat.add_mul]; exact Nat.mul_le_mul_right _ hroom
        have hr2 := run_append_room (P := P) w t o.type e i ht hi g n cap cur hg ad m c news hl hnews h1 hroom hfit
        rw [hr] at hr2
        injection hr2 with e1 e2
        subst e1
        left
        exact hk
      · have holds : ∀ j u, xs[j]? = some u → w.cell? ((⟨g, 0, none⟩ : Addr).add j) = some u := hown.cells (g := g) rfl
        have hr2 := run_append_grow (P := P) w t o.type e i z ht hi hz ⟨g, 0, none⟩ n cap xs hown.1 holds ad m c news hl hnews (by omega) (by omega) (growslice_fits (by omega) hbytes)
        rw [hr] at hr2
        injection hr2 with e1 e2
        subst e1
        simp only [Value.ownBlock, Option.some.injEq] at hk
        right
        omega
  refine wpList_plain hgd fun K hK => ?_
  unfold Oper.wp execOp
  simp only [ho, resolve, invoke, builtin, Sem.run_bind, Sem.run_pure, Result.andThen_ok, List.map_toArray, List.map_cons, List.map_nil, hs, hx, hr]
  exact hK _ _ (h v' w' h2 h3 hw)

theorem append_none (ao : Option Addr) (cap : Nat) (W : World) (ty : TypeId) : (Builtin.append_ #[52, 52] ty #[.slice none 0 0, .slice ao 0 cap]).run Tryz.prog W = .ok (.slice none 0 0) W := by
  obtain ⟨ii, hi, hz0, hz1, hz2⟩ := info_parts infoInt
  cases ao <;> simp [Builtin.append_, run_underlying Tryz.underlying52, sizeOf, typeInfo, hi, Builtin.lenOf, Builtin.firstCells, loadCells, loadCellsFrom]
theorem wpList_append_eq {P : Program} {ops : Array Oper} {rest : List Oper} {o : Oper} {a : Act} {w : World} {Q : Exit → Act → World → Prop} (hgd : o.guard = none) (s x : Operand) (t : TypeId)
    (ho : o.op = .call { callee := .builtin .append, args := #[s, x], argTypes := #[t, t] }) (v1 v2 : Value) (hs : a.eval s = v1) (hx : a.eval x = v2) (v' : Value) (w' : World)
    (hr : (Builtin.append_ #[t, t] o.type #[v1, v2]).run P w = .ok v' w') (h : wpList P ops Q rest (a.put o.dst v') w') : wpList P ops Q (o :: rest) a w := by
  refine wpList_plain hgd fun K hK => ?_
  unfold Oper.wp execOp
  simp only [ho, resolve, invoke, builtin, Sem.run_bind, Sem.run_pure, Result.andThen_ok, List.map_toArray, List.map_cons, List.map_nil, hs, hx, hr]
  exact hK _ _ h
end Go.Proofs.YtjbbpbhlbmmekaeGreatDoor
namespace Go.Proofs.YtjbbpbhlbmmekaeGreatDoor
open Go.RowKit
/-- Numbers that can be read. -/
def Rd (w : World) (v : Value) (xs : List Int) : Prop := (xs = [] ∧ ∃ ao cap, v = .slice ao 0 cap) ∨ ∃ g off cap, v = .slice (some ⟨g, off, none⟩) xs.length cap ∧ xs.length ≤ cap ∧ cap ≤ maxLen ∧ g < w.heap.size ∧ ∀ (i : Nat) x, xs[i]? = some x → w.cell? ⟨g, off + i, none⟩ = some (.int .i64 x)
theorem Rd.form {w : World} {v : Value} {xs : List Int} (h : Rd w v xs) : ∃ ao cap, v = .slice ao xs.length cap := by
  rcases h with ⟨rfl, ao, cap, rfl⟩ | ⟨g, off, cap, rfl, _⟩
  · exact ⟨_, _, rfl⟩
  · exact ⟨_, _, rfl⟩
theorem Rd.block {w w' : World} {v : Value} {xs : List Int} (h : Rd w v xs) (hb : ∀ k, k < w.heap.size → v.ownBlock = some k → w'.heap[k]? = w.heap[k]?) (hs : w.heap.size ≤ w'.heap.size) : Rd w' v xs := by
  rcases h with h | ⟨g, off, cap, rfl, h1, h1', h2, h3⟩
  · exact Or.inl h
  · exact Or.inr ⟨g, off, cap, rfl, h1, h1', by omega, fun i x hx => (World.cell?_of_block (w := w) (a := ⟨g, off + i, none⟩) (hb g h2 rfl)).trans (h3 i x hx)⟩
theorem Rd.own {w : World} {base : Nat} {v : Value} {xs : List Int} (h : w.ownsRow base 3 1 v xs.length (ints xs)) : Rd w v xs := by
  rcases row_form h with ⟨rfl, h0⟩ | ⟨g, cap, rfl⟩
  · exact Or.inl ⟨List.eq_nil_of_length_eq_zero h0, _, _, rfl⟩
  · obtain ⟨_, h2, h3, h4, h5, _, _⟩ := own_cap h
    exact Or.inr ⟨g, 0, cap, rfl, h3, h4, h2, fun i x hx => by rw [Nat.zero_add]; exact h5 i _ (ints_at hx)⟩
theorem Rd.all {w w' : World} {v : Value} {xs : List Int} (h : Rd w v xs) (hb : Below w.heap.size w w') : Rd w' v xs := by
  rcases h with h | ⟨g, off, cap, rfl, h1, h1', h2, h3⟩
  · exact Or.inl h
  · exact Or.inr ⟨g, off, cap, rfl, h1, h1', by have := hb.size; omega, fun i x hx => (hb.cell (p := ⟨g, off + i, none⟩) h2).trans (h3 i x hx)⟩
end Go.Proofs.YtjbbpbhlbmmekaeGreatDoor
namespace Go.Proofs.YtjbbpbhlbmmekaeGreatDoor
open Go.RowKit

/-- The cells of wires, one behind the other. -/
def wrCells (l : List W4) : List Value := l.flatMap fun o => [.int .i64 o.1, .int .i64 o.2.1, .int .i64 o.2.2.1, .int .i64 o.2.2.2]
theorem wrCells_snoc (l : List W4) (o : W4) : wrCells (l ++ [o]) = wrCells l ++ [.int .i64 o.1, .int .i64 o.2.1, .int .i64 o.2.2.1, .int .i64 o.2.2.2] := by simp [wrCells]
theorem wrCells_len : ∀ (l : List W4), (wrCells l).length = l.length * 4
  | [] => rfl
  | x :: l => by
    have := wrCells_len l
    have e : wrCells (x :: l) = [.int .i64 x.1, .int .i64 x.2.1, .int .i64 x.2.2.1, .int .i64 x.2.2.2] ++ wrCells l := by simp [wrCells]
    rw [e, List.length_append, this]
    simp
    omega
theorem wrCells_one (l : List W4) : ∀ u ∈ wrCells l, u.oneCell' = true := by
  intro u hu
  simp only [wrCells, List.mem_flatMap] at hu
  obtain ⟨o, _, hu⟩ := hu
  simp at hu
  rcases hu with rfl | rfl | rfl | rfl <;> rfl
theorem wrCells_at : ∀ (l : List W4) (i : Nat) (o : W4), l[i]? = some o → (wrCells l)[i * 4]? = some (.int .i64 o.1) ∧ (wrCells l)[i * 4 + 1]? = some (.int .i64 o.2.1) ∧ (wrCells l)[i * 4 + 2]? = some (.int .i64 o.2.2.1) ∧ (wrCells l)[i * 4 + 3]? = some (.int .i64 o.2.2.2)
  | [], i, o, h => by simp at h
  | x :: l, 0, o, h => by
    simp at h
    subst h
    simp [wrCells]
  | x :: l, i + 1, o, h => by
    have := wrCells_at l i o (by simpa using h)
    have e : wrCells (x :: l) = [.int .i64 x.1, .int .i64 x.2.1, .int .i64 x.2.2.1, .int .i64 x.2.2.2] ++ wrCells l := by simp [wrCells]
    rw [e]
    refine ⟨?_, ?_, ?_, ?_⟩
    · rw [List.getElem?_append_right (by simp; omega)]
      simpa [show (i + 1) * 4 - 4 = i * 4 by omega] using this.1
    · rw [List.getElem?_append_right (by simp; omega)]
      simpa [show (i + 1) * 4 + 1 - 4 = i * 4 + 1 by omega] using this.2.1
    · rw [List.getElem?_append_right (by simp; omega)]
      simpa [show (i + 1) * 4 + 2 - 4 = i * 4 + 2 by omega] using this.2.2.1
    · rw [List.getElem?_append_right (by simp; omega)]
      simpa [show (i + 1) * 4 + 3 - 4 = i * 4 + 3 by omega] using this.2.2.2
theorem wrs_of_own {w : World} {base : Nat} {v : Value} {l : List W4} (h : w.ownsRow base 49 4 v l.length (wrCells l)) : Wrs w v l := by
  have hl := h.lt
  have hcs := @World.ownsRow.cells _ _ _ _ _ _ _ h
  rcases h.2 with ⟨rfl, h0⟩ | ⟨g, cap, cur, rfl, _, _, hcap, _⟩
  · exact Or.inl ⟨List.eq_nil_of_length_eq_zero h0, _, _, rfl⟩
  · have hat : ∀ j u, (wrCells l)[j]? = some u → w.cell? ⟨g, j, none⟩ = some u := fun j u hu => by
      have := hcs rfl j u hu
      unfold Addr.add at this
      split at this
      · rename_i h0; subst h0; exact this
      · simpa using this
    refine Or.inr ⟨g, 0, cap, rfl, hcap, (hl g rfl).2, fun i o ho => ?_⟩
    obtain ⟨h1, h2, h3, h4⟩ := wrCells_at l i o ho
    exact ⟨by simpa using hat _ _ h1, by simpa using hat _ _ h2, by simpa using hat _ _ h3, by simpa using hat _ _ h4⟩
theorem infoWr : (Tryz.prog.info? 49).map (fun i => (i.zero, i.size, i.bytes)) = some (some (.agg #[.int .i64 0, .int .i64 0, .int .i64 0, .int .i64 0]), 4, 32) := by kernel_rfl
theorem wr_new {w : World} {k : Nat} (hk : k = w.heap.size) (x y z u : Value) (t : TypeId) : ∀ j q, [x, y, z, u][j]? = some q → (w.alloc (.cells #[x, y, z, u] t)).cell? ((⟨k, 0, none⟩ : Addr).add j) = some q := by
  subst hk
  intro j q hj
  match j, hj with
  | 0, hj => simp at hj; subst hj; simp [Addr.add]
  | 1, hj => simp at hj; subst hj; simp [Addr.add]
  | 2, hj => simp at hj; subst hj; simp [Addr.add]
  | 3, hj => simp at hj; subst hj; simp [Addr.add]
theorem four_one (a b c d : Int) : ∀ u ∈ [Value.int .i64 a, .int .i64 b, .int .i64 c, .int .i64 d], u.oneCell' = true := by
  intro u hu
  simp at hu
  rcases hu with rfl | rfl | rfl | rfl <;> rfl
theorem own4_form {w : World} {base : Nat} {e : TypeId} {size : Nat} {v : Value} {n : Nat} {xs : List Value} (R : w.ownsRow base e size v n xs) : ∃ g cap, v = .slice g n cap := by
  rcases R.2 with ⟨h, h0⟩ | ⟨g, cap, cur, h, _⟩
  · exact ⟨_, _, by rw [h0]; exact h⟩
  · exact ⟨_, _, h⟩
end Go.Proofs.YtjbbpbhlbmmekaeGreatDoor
namespace Go.Proofs.YtjbbpbhlbmmekaeGreatDoor
open Go.RowKit

set_option maxRecDepth 100000 in
set_option maxHeartbeats 2000000 in
theorem index_ints (xs : List Int) (x : Int) (b off cap : Nat) (w : World) (hx : xs.length ≤ 1000) (hc : ∀ (i : Nat) y, xs[i]? = some y → w.cell? ⟨b, off + i, none⟩ = some (.int .i64 y)) :
    Calls Tryz.prog 35 #[.slice (some ⟨b, off, none⟩) xs.length cap, .int .i64 x] w fun e w' => (∃ r : Int, e = .returned (.int .i64 r) ∧ decide (0 ≤ r) = xs.contains x) ∧ w' = w := by
  have HC : Hid (∀ (i : Nat) y, xs[i]? = some y → w.cell? ⟨b, off + i, none⟩ = some (.int .i64 y)) := hc
  clear hc
  go_enter Tryz.func35, Tryz.ntmps35
  go_wp2
  go_loopw [8] (fun i wr => ∃ k : Nat, k ≤ xs.length ∧ i = .int .i64 k ∧ (∀ (j : Nat) y, j < k → xs[j]? = some y → (x == y) = false) ∧ wr = w) (fun i _ => xs.length - (intOf i).toNat)
  case atStart => exact ⟨0, Nat.zero_le _, rfl, fun j y hj => by omega, rfl⟩
  case round =>
    obtain ⟨k, hk, rfl, hall, rfl⟩ := hrel
    have Hall : Hid (∀ (j : Nat) y, j < k → xs[j]? = some y → (x == y) = false) := hall
    clear hall
    by_cases hkl : k < xs.length
    · have hki : (k : Int) < (xs.length : Int) := by omega
      obtain ⟨y, hy⟩ : ∃ y, xs[k]? = some y := ⟨xs[k], List.getElem?_eq_getElem hkl⟩
      have d0 := HC.out k y hy
      have HY : Hid (xs[k]? = some y) := hy
      clear hy
      cases hxy : (x == y) with
      | false =>
        go_wp2
        go_roundw
        case rel =>
          refine ⟨k + 1, by omega, by go_num, fun j z hj hz => ?_, by trivial⟩
          by_cases hjk : j < k
          · exact Hall.out j z hjk hz
          · obtain rfl : j = k := by omega
            rw [HY.out] at hz
            obtain rfl := Option.some.inj hz
            exact hxy
        case measure => simp [intOf]; omega
      | true =>
        have HF : Hid (xs.contains x = true) := by
          show _ = _
          rw [List.contains_iff_mem]
          obtain rfl := eq_of_beq hxy
          exact List.mem_of_getElem? HY.out
        go_wp2
        go_ret
        exact ⟨⟨_, rfl, by rw [HF.out]; simp⟩, rfl⟩
    · have hki : decide ((k : Int) < (xs.length : Int)) = false := decide_eq_false (by omega)
      have hki' : decide (k < xs.length) = false := decide_eq_false (by omega)
      have HF : Hid (xs.contains x = false) := by
        show _ = _
        rw [Bool.eq_false_iff]
        intro h
        rw [List.contains_iff_mem] at h
        obtain ⟨j, hj⟩ := List.mem_iff_getElem?.1 h
        have := Hall.out j x (by have := (List.getElem?_eq_some_iff.1 hj).1; omega) hj
        simp at this
      go_wp2
      go_ret
      exact ⟨⟨_, rfl, by rw [HF.out]; decide⟩, rfl⟩
set_option maxRecDepth 100000 in
set_option maxHeartbeats 2000000 in
theorem contains_ints (xs : List Int) (x : Int) (b off cap : Nat) (w : World) (hx : xs.length ≤ 1000) (hc : ∀ (i : Nat) y, xs[i]? = some y → w.cell? ⟨b, off + i, none⟩ = some (.int .i64 y)) :
    Calls Tryz.prog 20 #[.slice (some ⟨b, off, none⟩) xs.length cap, .int .i64 x] w fun e w' => e = .returned (.bool (xs.contains x)) ∧ w' = w := by
  have h := index_ints xs x b off cap w hx hc
  obtain ⟨r, hr⟩ : ∃ r, r = xs.contains x := ⟨_, rfl⟩
  rw [← hr] at h ⊢
  clear hr hc
  go_enter Tryz.func20, Tryz.ntmps20
  go_wp2_with (go_at_call 35; refine h.mono ?_; rintro e w1 ⟨⟨q, rfl, hq⟩, rfl⟩; clear h)
  go_ret
  exact ⟨rfl, rfl⟩
end Go.Proofs.YtjbbpbhlbmmekaeGreatDoor
namespace Go.Proofs.YtjbbpbhlbmmekaeGreatDoor
open Go.RowKit

/-- What lies in fours can be read cell by cell. -/
theorem quad_at {w : World} {b : Nat} : ∀ (l : List W4) (off : Nat), WrC w b off l → ∀ j u, (wrCells l)[j]? = some u → w.cell? ((⟨b, off, none⟩ : Addr).add j) = some u
  | [], off, _, j, u, hj => by simp [wrCells] at hj
  | x :: l, off, h, j, u, hj => by
    have e : wrCells (x :: l) = [.int .i64 x.1, .int .i64 x.2.1, .int .i64 x.2.2.1, .int .i64 x.2.2.2] ++ wrCells l := by simp [wrCells]
    rw [e] at hj
    obtain ⟨h0, h1, h2, h3⟩ := h 0 x (by simp)
    rw [Addr.add_lit]
    match j, hj with
    | 0, hj => simp at hj; subst hj; simpa using h0
    | 1, hj => simp at hj; subst hj; simpa using h1
    | 2, hj => simp at hj; subst hj; simpa using h2
    | 3, hj => simp at hj; subst hj; simpa using h3
    | j + 4, hj =>
      rw [List.getElem?_append_right (by simp)] at hj
      have ih := quad_at l (off + 4) (fun i o ho => by
        have := h (i + 1) o (by simpa using ho)
        rw [show off + (i + 1) * 4 = off + 4 + i * 4 by omega] at this
        exact this) j u (by simpa using hj)
      rw [Addr.add_lit] at ih
      rw [show off + (j + 4) = off + 4 + j by omega]
      exact ih
set_option maxRecDepth 100000 in
set_option maxHeartbeats 4000000 in
theorem clone_wr_nil (cap : Nat) (w : World) : Calls Tryz.prog 19 #[.slice none 0 cap] w fun e w' => e = .returned (.slice none 0 0) ∧ w' = w := by
  have q : ∀ (w : World) (a : Option Addr) (n c n' c' : Nat), (binOp .eql 24 (.slice a n c) (.slice none n' c')).run Tryz.prog w = .ok (.bool a.isNone) w := fun w a n c n' c' => Lib.run_eql_slice_nil w _ _ a n c n' c' Tryz.underlying24
  go_enter Tryz.func19, Tryz.ntmps19
  go_wp2
  go_ret
  exact ⟨rfl, rfl⟩
set_option maxRecDepth 100000 in
set_option maxHeartbeats 4000000 in
theorem clone_wr_some (ad : Addr) (cap : Nat) (l : List W4) (w : World) (hx : l.length ≤ 1000) (hc : ∀ j u, (wrCells l)[j]? = some u → w.cell? (ad.add j) = some u) :
    Calls Tryz.prog 19 #[.slice (some ad) l.length cap] w fun e w' => ∃ v', e = .returned v' ∧ w'.ownsRow w.heap.size 49 4 v' l.length (wrCells l) ∧ Below w.heap.size w w' := by
  obtain ⟨ii, hi, hz0, hz1, hz2⟩ := info_parts infoWr
  have q : ∀ (w : World) (a : Option Addr) (n c n' c' : Nat), (binOp .eql 24 (.slice a n c) (.slice none n' c')).run Tryz.prog w = .ok (.bool a.isNone) w := fun w a n c n' c' => Lib.run_eql_slice_nil w _ _ a n c n' c' Tryz.underlying24
  have HC : Hid (∀ j u, (wrCells l)[j]? = some u → w.cell? (ad.add j) = some u) := hc
  clear hc
  go_enter Tryz.func19, Tryz.ntmps19
  go_wp2_with (at_builtin; refine wpList_append_at _ rfl _ _ 24 rfl w.heap.size 49 ii _ 4 32 Tryz.underlying24 hi hz0 hz1 hz2 rfl (by decide) _ _ _ rfl (World.ownsRow_made w #[] 0 (Nat.le_refl _) (Nat.zero_le _) rfl) ad l.length cap (wrCells l) rfl ?c0A ?c1A ?c2A ?c3A ?c4A ?c5A ?_)
  case c0A => exact wrCells_len l
  case c1A =>
    intro j u hj
    have h := HC.out j u hj
    exact (((Below.refl _ w).alloc (Nat.le_refl _) _).cell (p := ad.add j) (World.block_lt_of_cell? w _ h)).trans h
  case c2A => exact wrCells_one l
  case c3A => unfold maxLen; omega
  case c4A => omega
  case c5A => simp
  intro v1 w2 own1 hg1 hat1
  clear q
  go_wp2
  go_ret
  refine ⟨v1, rfl, by simpa using own1, ((Below.refl _ w).alloc (Nat.le_refl _) _).grown hg1 (by simp) (by intro k hk; simp [Value.ownBlock] at hk; omega)⟩
theorem clone_wrs (l : List W4) (v : Value) (w : World) (h : Wrs w v l) (hx : l.length ≤ 1000) :
    Calls Tryz.prog 19 #[v] w fun e w' => ∃ v', e = .returned v' ∧ w'.ownsRow w.heap.size 49 4 v' l.length (wrCells l) ∧ Below w.heap.size w w' := by
  rcases h with ⟨rfl, ao, cap, rfl⟩ | ⟨b, off, cap, rfl, hcap, hlt, hc⟩
  · cases ao with
    | none =>
      refine (clone_wr_nil cap w).mono ?_
      rintro e w' ⟨rfl, rfl⟩
      exact ⟨_, rfl, World.ownsRow_nil _ _ _ _, Below.refl _ _⟩
    | some ad => exact clone_wr_some ad cap [] w (Nat.zero_le _) (fun j u hj => by simp [wrCells] at hj)
  · exact clone_wr_some ⟨b, off, none⟩ cap l w hx (quad_at l off hc)
end Go.Proofs.YtjbbpbhlbmmekaeGreatDoor
namespace Go.Proofs.YtjbbpbhlbmmekaeGreatDoor
open Go.RowKit

theorem fieldsSt : Tryz.prog.underlying 39 = some (.struct (Tryz.prog.fieldsOf 39)) := by kernel_rfl
theorem stoodSt : Tryz.prog.stoodInHeld 39 = false := by kernel_rfl
theorem guardSt : Tryz.prog.eqGuardType Tryz.prog.depth 39 = false := by kernel_rfl
theorem fieldsStIs : Tryz.prog.fieldsOf 39 = #[{ name := "At", type := 3, offset := 0, embedded := false, tag := "", pkgPath := "", byteOffset := 0 }, { name := "Cells", type := 37, offset := 1, embedded := false, tag := "", pkgPath := "", byteOffset := 8 }, { name := "Failed", type := 4, offset := 7, embedded := false, tag := "", pkgPath := "", byteOffset := 56 }] := by kernel_rfl
theorem eqIn_six (a b c d e f : Int) (w : World) : (Op.equalIn 9999 37 (.agg #[.int .i64 a, .int .i64 b, .int .i64 c, .int .i64 d, .int .i64 e, .int .i64 f]) (.agg #[.int .i64 a, .int .i64 b, .int .i64 c, .int .i64 d, .int .i64 e, .int .i64 f])).run Tryz.prog w = .ok true w := by
  obtain ⟨n, hn⟩ : ∃ n, n + 1 = 9999 := ⟨9998, rfl⟩
  obtain ⟨m, hm⟩ : ∃ m, n = m + 1 := ⟨9997, by omega⟩
  rw [← hn]
  clear hn
  have hq : ∀ (x : Int) (w : World), (Op.equalIn n 3 (.int .i64 x) (.int .i64 x)).run Tryz.prog w = .ok true w := fun x w => by
    rw [hm, run_equalIn_int w m 3 .i64 .i64 x x Tryz.underlying3]
    simp
  clear hm
  simp only [Op.equalIn, Sem.run_bind, run_underlying Tryz.underlying37, Result.andThen_ok]
  simp [List.range', go_sem, hq]
theorem eqIn_st (p a b c d e f : Int) (g : Bool) (w : World) : (Op.equalIn 10000 39 (.agg #[.int .i64 p, .int .i64 a, .int .i64 b, .int .i64 c, .int .i64 d, .int .i64 e, .int .i64 f, .bool g]) (.agg #[.int .i64 p, .int .i64 a, .int .i64 b, .int .i64 c, .int .i64 d, .int .i64 e, .int .i64 f, .bool g])).run Tryz.prog w = .ok true w := by
  rw [run_equalIn_agg _ _ _ _ _ fieldsSt stoodSt, fieldsStIs]
  simp [go_sem, Tryz.underlying3, Tryz.underlying4, eqIn_six]
theorem eql_st (p a b c d e f : Int) (g : Bool) (w : World) : (binOp .eql 39 (.agg #[.int .i64 p, .int .i64 a, .int .i64 b, .int .i64 c, .int .i64 d, .int .i64 e, .int .i64 f, .bool g]) (.agg #[.int .i64 p, .int .i64 a, .int .i64 b, .int .i64 c, .int .i64 d, .int .i64 e, .int .i64 f, .bool g])).run Tryz.prog w = .ok (.bool true) w := by
  rw [run_eql_struct, eqIn_st]
  rfl
theorem neq_st (p a b c d e f : Int) (g : Bool) (w : World) : (binOp .neq 39 (.agg #[.int .i64 p, .int .i64 a, .int .i64 b, .int .i64 c, .int .i64 d, .int .i64 e, .int .i64 f, .bool g]) (.agg #[.int .i64 p, .int .i64 a, .int .i64 b, .int .i64 c, .int .i64 d, .int .i64 e, .int .i64 f, .bool g])).run Tryz.prog w = .ok (.bool false) w := by
  rw [run_neq_struct, eqIn_st]
  rfl
end Go.Proofs.YtjbbpbhlbmmekaeGreatDoor
namespace Go.Proofs.YtjbbpbhlbmmekaeGreatDoor

/-- What A is below, of an op n. -/
def bA (n : Int) : Int := if n = 7 ∨ n = 10 ∨ n = 11 then 1 else 6
/-- What B is below, of an op n in code of 'ops' ops. -/
def bB (n ops : Int) : Int := if n = 1 then 1000 else if n ≤ 5 then 6 else if n ≤ 7 then ops else if n ≤ 9 then 12 else 1
/-- Whether an op fits in code of so many ops. -/
def fitsB (n a b ops : Int) : Bool := decide (1 ≤ n ∧ n ≤ 11 ∧ 0 ≤ a ∧ a < bA n ∧ 0 ≤ b ∧ b < bB n ops)

theorem fitsB_lo {n a b ops : Int} (h : n < 1) : fitsB n a b ops = false := by simp [fitsB]; omega
theorem fitsB_hi {n a b ops : Int} (h : 11 < n) : fitsB n a b ops = false := by simp [fitsB]; omega
theorem fitsB_mk {n a b ops p q : Int} (h1 : 1 ≤ n) (h2 : n ≤ 11) (hp : bA n = p) (hq : bB n ops = q) : fitsB n a b ops = decide (0 ≤ a ∧ a < p ∧ 0 ≤ b ∧ b < q) := by
  simp [fitsB, h1, h2, hp, hq]

/-- An op: What, A, B. -/
abbrev O3 := Int × Int × Int
def ok3 (ops : Int) (o : O3) : Bool := fitsB o.1 o.2.1 o.2.2 ops
/-- Check: which op is wrong, and how. -/
def chk (l : List O3) : Int × Int :=
  if l.length = 0 then (0, 5) else if 20 < l.length then (0, 4) else
    match l.findIdx? (fun o => !ok3 l.length o) with
    | some i => (i, 1)
    | none => (0, 0)
theorem chk_nil : chk [] = (0, 5) := rfl
theorem chk_long {l : List O3} (h : 20 < l.length) : chk l = (0, 4) := by
  unfold chk
  rw [if_neg (by omega), if_pos h]
theorem chk_bad {l : List O3} {i : Nat} (h0 : l.length ≠ 0) (h1 : ¬ 20 < l.length) (h : l.findIdx? (fun o => !ok3 l.length o) = some i) : chk l = ((i : Int), 1) := by
  unfold chk
  rw [if_neg h0, if_neg h1, h]
theorem chk_good {l : List O3} (h0 : l.length ≠ 0) (h1 : ¬ 20 < l.length) (h : l.findIdx? (fun o => !ok3 l.length o) = none) : chk l = (0, 0) := by
  unfold chk
  rw [if_neg h0, if_neg h1, h]
theorem chk_zero {l : List O3} (h : (chk l).2 = 0) : l.length ≠ 0 ∧ l.length ≤ 20 ∧ ∀ o ∈ l, ok3 l.length o = true := by
  unfold chk at h
  split at h
  · simp at h
  · split at h
    · simp at h
    · rename_i h0 h1
      cases hf : l.findIdx? (fun o => !ok3 l.length o) with
      | some i => rw [hf] at h; simp at h
      | none =>
        rw [List.findIdx?_eq_none_iff] at hf
        exact ⟨h0, by omega, fun o ho => by simpa using hf o ho⟩
theorem chk_fst {l : List O3} (h : (chk l).2 = 0) : chk l = (0, 0) := by
  obtain ⟨h0, h1, h2⟩ := chk_zero h
  exact chk_good h0 (by omega) (by rw [List.findIdx?_eq_none_iff]; intro o ho; simp [h2 o ho])
theorem chk_zero_iff {l : List O3} : (chk l).2 = 0 ↔ (l.length ≠ 0 ∧ l.length ≤ 20 ∧ ∀ o ∈ l, ok3 l.length o = true) := by
  refine ⟨chk_zero, fun ⟨h0, h1, h2⟩ => ?_⟩
  rw [chk_good h0 (by omega) (by rw [List.findIdx?_eq_none_iff]; intro o ho; simp [h2 o ho])]
theorem findIdx_hit {α : Type} {p : α → Bool} : ∀ {l : List α} {k : Nat} {o : α}, (∀ i x, i < k → l[i]? = some x → p x = false) → l[k]? = some o → p o = true → l.findIdx? p = some k
  | [], k, o, _, h, _ => by simp at h
  | x :: l, 0, o, _, h, hp => by simp at h; subst h; simp [List.findIdx?_cons, hp]
  | x :: l, k + 1, o, h0, h, hp => by
    have hx : p x = false := h0 0 x (by omega) rfl
    have := findIdx_hit (l := l) (k := k) (o := o) (fun i y hi hy => h0 (i + 1) y (by omega) (by simpa using hy)) (by simpa using h) hp
    simp [List.findIdx?_cons, hx, this]
theorem findIdx_miss {α : Type} {p : α → Bool} {l : List α} (h : ∀ (i : Nat) x, i < l.length → l[i]? = some x → p x = false) : l.findIdx? p = none := by
  rw [List.findIdx?_eq_none_iff]
  intro x hx
  obtain ⟨i, hi, rfl⟩ := List.getElem_of_mem hx
  exact h i _ hi (by simp [hi])

/-- The name of an op. -/
def nameB (n : Int) : List UInt8 :=
  if n = 1 then [115, 101, 116] else if n = 2 then [99, 111, 112, 121] else if n = 3 then [97, 100, 100] else if n = 4 then [115, 117, 98] else if n = 5 then [109, 117, 108] else
  if n = 6 then [122, 101, 114, 111] else if n = 7 then [106, 117, 109, 112] else if n = 8 then [115, 101, 110, 100] else if n = 9 then [116, 97, 107, 101] else if n = 10 then [114, 101, 115, 116] else if n = 11 then [102, 97, 105, 108] else []
/-- The numbers that an op's line says. -/
def numsB (o : O3) : List Int := if o.1 = 7 then [o.2.2] else if o.1 = 10 ∨ o.1 = 11 then [] else [o.2.1, o.2.2]
theorem ok3_range {ops : Int} {o : O3} (h : ok3 ops o = true) : 1 ≤ o.1 ∧ o.1 ≤ 11 ∧ 0 ≤ o.2.1 ∧ o.2.1 < bA o.1 ∧ 0 ≤ o.2.2 ∧ o.2.2 < bB o.1 ops := by
  simpa [ok3, fitsB] using h
theorem bA_le (n : Int) : 1 ≤ bA n ∧ bA n ≤ 6 := by unfold bA; split <;> omega
theorem bB_le (n ops : Int) : bB n ops ≤ max 1000 ops := by unfold bB; split <;> (try split) <;> (try split) <;> (try split) <;> omega
theorem ok3_small {ops : Int} {o : O3} (hops : ops ≤ 1000) (h : ok3 ops o = true) : 1 ≤ o.1 ∧ o.1 ≤ 11 ∧ 0 ≤ o.2.1 ∧ o.2.1 ≤ 5 ∧ 0 ≤ o.2.2 ∧ o.2.2 ≤ 999 := by
  have h1 := ok3_range h
  have h2 := bA_le o.1
  have h3 := bB_le o.1 ops
  omega
theorem name_le (n : Int) : (nameB n).length ≤ 4 := by
  unfold nameB
  repeat' split
  all_goals simp

/-- Which What has a name; 0, if none has. -/
def namedB (l : List UInt8) : Int :=
  if l = nameB 1 then 1 else if l = nameB 2 then 2 else if l = nameB 3 then 3 else if l = nameB 4 then 4 else if l = nameB 5 then 5 else
  if l = nameB 6 then 6 else if l = nameB 7 then 7 else if l = nameB 8 then 8 else if l = nameB 9 then 9 else if l = nameB 10 then 10 else if l = nameB 11 then 11 else 0
theorem named_hit (k : Nat) (h1 : 1 ≤ k) (h2 : k ≤ 11) : namedB (nameB k) = k := by
  have h : k = 1 ∨ k = 2 ∨ k = 3 ∨ k = 4 ∨ k = 5 ∨ k = 6 ∨ k = 7 ∨ k = 8 ∨ k = 9 ∨ k = 10 ∨ k = 11 := by omega
  rcases h with rfl | rfl | rfl | rfl | rfl | rfl | rfl | rfl | rfl | rfl | rfl <;> decide
theorem named_miss {l : List UInt8} (h : ∀ k : Nat, 1 ≤ k → k ≤ 11 → l ≠ nameB k) : namedB l = 0 := by
  unfold namedB
  rw [if_neg (show l ≠ nameB 1 from h 1 (by omega) (by omega)), if_neg (show l ≠ nameB 2 from h 2 (by omega) (by omega)), if_neg (show l ≠ nameB 3 from h 3 (by omega) (by omega)), if_neg (show l ≠ nameB 4 from h 4 (by omega) (by omega)), if_neg (show l ≠ nameB 5 from h 5 (by omega) (by omega)), if_neg (show l ≠ nameB 6 from h 6 (by omega) (by omega)), if_neg (show l ≠ nameB 7 from h 7 (by omega) (by omega)), if_neg (show l ≠ nameB 8 from h 8 (by omega) (by omega)), if_neg (show l ≠ nameB 9 from h 9 (by omega) (by omega)), if_neg (show l ≠ nameB 10 from h 10 (by omega) (by omega)), if_neg (show l ≠ nameB 11 from h 11 (by omega) (by omega))]
theorem named_cases (l : List UInt8) : namedB l = 0 ∨ ∃ k : Nat, 1 ≤ k ∧ k ≤ 11 ∧ namedB l = k ∧ l = nameB k := by
  by_cases h : ∃ k : Nat, 1 ≤ k ∧ k ≤ 11 ∧ l = nameB k
  · obtain ⟨k, h1, h2, rfl⟩ := h
    exact Or.inr ⟨k, h1, h2, named_hit k h1 h2, rfl⟩
  · exact Or.inl (named_miss fun k h1 h2 e => h ⟨k, h1, h2, e⟩)

end Go.Proofs.YtjbbpbhlbmmekaeGreatDoor
namespace Go.Proofs.YtjbbpbhlbmmekaeGreatDoor

/-- A state of a room: where it goes on, its cells, whether it has failed. -/
structure St where
  p : Int
  c : Nat → Int
  f : Bool
/-- One cell changed. -/
def upd (c : Nat → Int) (a : Nat) (v : Int) : Nat → Int := fun i => if i = a then v else c i
theorem upd_same (c : Nat → Int) (a : Nat) (v : Int) : upd c a v a = v := by simp [upd]
theorem upd_other (c : Nat → Int) {a i : Nat} (v : Int) (h : i ≠ a) : upd c a v i = c i := by simp [upd, h]
/-- Whether all cells are numbers of a room. -/
def cellsOk (c : Nat → Int) : Bool := decide (0 ≤ c 0 ∧ c 0 ≤ 999 ∧ 0 ≤ c 1 ∧ c 1 ≤ 999 ∧ 0 ≤ c 2 ∧ c 2 ≤ 999 ∧ 0 ≤ c 3 ∧ c 3 ≤ 999 ∧ 0 ≤ c 4 ∧ c 4 ≤ 999 ∧ 0 ≤ c 5 ∧ c 5 ≤ 999)
theorem six {P : Nat → Prop} : (∀ i, i < 6 → P i) ↔ (P 0 ∧ P 1 ∧ P 2 ∧ P 3 ∧ P 4 ∧ P 5) := by
  refine ⟨fun h => ⟨h 0 (by omega), h 1 (by omega), h 2 (by omega), h 3 (by omega), h 4 (by omega), h 5 (by omega)⟩, fun ⟨h0, h1, h2, h3, h4, h5⟩ i hi => ?_⟩
  match i, hi with
  | 0, _ => exact h0
  | 1, _ => exact h1
  | 2, _ => exact h2
  | 3, _ => exact h3
  | 4, _ => exact h4
  | 5, _ => exact h5
  | i + 6, h => omega
theorem cellsOk_iff {c : Nat → Int} : cellsOk c = true ↔ ∀ i, i < 6 → 0 ≤ c i ∧ c i ≤ 999 := by
  rw [six]
  simp [cellsOk, and_assoc]
theorem cellsOk_no {c : Nat → Int} (h : ¬ ∀ i, i < 6 → 0 ≤ c i ∧ c i ≤ 999) : cellsOk c = false := by
  rw [← cellsOk_iff] at h
  simpa using h
/-- Whether a state is right in code of so many ops. -/
def stOk (s : St) (n : Nat) : Bool := decide (0 ≤ s.p ∧ s.p < n) && cellsOk s.c
theorem stOk_iff {s : St} {n : Nat} : stOk s n = true ↔ (0 ≤ s.p ∧ s.p < n ∧ ∀ i, i < 6 → 0 ≤ s.c i ∧ s.c i ≤ 999) := by
  simp only [stOk, Bool.and_eq_true, decide_eq_true_eq, cellsOk_iff, and_assoc]
/-- Check of code and a state: the error. -/
def rchk (l : List O3) (s : St) : Int := if (chk l).2 = 0 then (if stOk s l.length = true then 0 else 1) else (chk l).2
/-- Check, and what is there to be taken. -/
def gchk (l : List O3) (s : St) (got : Int) (is : Bool) : Int := if rchk l s = 0 then (if is = true ∧ (got < 0 ∨ 999 < got) then 1 else 0) else rchk l s
/-- The cells as an op leaves them. -/
def cellsF (o : O3) (c : Nat → Int) (got : Int) (is : Bool) : Nat → Int :=
  if o.1 = 1 then upd c o.2.1.toNat o.2.2 else if o.1 = 2 then upd c o.2.1.toNat (c o.2.2.toNat) else
  if o.1 = 3 then upd c o.2.1.toNat ((c o.2.1.toNat + c o.2.2.toNat) % 1000) else
  if o.1 = 4 then upd c o.2.1.toNat ((c o.2.1.toNat - c o.2.2.toNat + 1000) % 1000) else
  if o.1 = 5 then upd c o.2.1.toNat ((c o.2.1.toNat * c o.2.2.toNat) % 1000) else
  if o.1 = 9 then (if is = true then upd c o.2.1.toNat got else c) else c
/-- The next place. -/
def nextF (o : O3) (s : St) (n : Nat) (is : Bool) : Int :=
  if o.1 = 7 ∨ (o.1 = 6 ∧ s.c o.2.1.toNat = 0) then o.2.2 else if o.1 = 11 ∨ (o.1 = 9 ∧ is = false) then s.p else if s.p + 1 = n then 0 else s.p + 1
/-- What an op sends. -/
def sentF (o : O3) (c : Nat → Int) : Int := if o.1 = 8 then c o.2.1.toNat else -1
/-- A step of a state that is right. -/
def stepF (o : O3) (s : St) (n : Nat) (got : Int) (is : Bool) : St := if s.f = true then s else ⟨nextF o s n is, cellsF o s.c got is, decide (o.1 = 11)⟩
def sendF (o : O3) (s : St) : Int := if s.f = true then -1 else sentF o s.c
/-- What comes of a step. -/
def whatF (o : O3) (s : St) (is : Bool) : Int := if s.f = true then 5 else if o.1 = 8 then 1 else if o.1 = 9 then (if is = true then 2 else 3) else if o.1 = 11 then 4 else 0
end Go.Proofs.YtjbbpbhlbmmekaeGreatDoor
namespace Go.Proofs.YtjbbpbhlbmmekaeGreatDoor

theorem upd_ok {c : Nat → Int} {a : Nat} {v : Int} (hc : ∀ i, i < 6 → 0 ≤ c i ∧ c i ≤ 999) (hv : 0 ≤ v ∧ v ≤ 999) : ∀ i, i < 6 → 0 ≤ upd c a v i ∧ upd c a v i ≤ 999 := by
  intro i hi
  unfold upd
  split
  · exact hv
  · exact hc i hi
theorem mod_ok (x : Int) : 0 ≤ x % 1000 ∧ x % 1000 ≤ 999 := by omega
theorem cellsF_ok {o : O3} {c : Nat → Int} {got : Int} {is : Bool} (hc : ∀ i, i < 6 → 0 ≤ c i ∧ c i ≤ 999) (h1 : o.1 = 1 → 0 ≤ o.2.2 ∧ o.2.2 ≤ 999) (h2 : o.1 = 2 → o.2.2.toNat < 6) (hg : is = true → 0 ≤ got ∧ got ≤ 999) : ∀ i, i < 6 → 0 ≤ cellsF o c got is i ∧ cellsF o c got is i ≤ 999 := by
  unfold cellsF
  split
  · rename_i h; exact upd_ok hc (h1 h)
  split
  · rename_i h; exact upd_ok hc (hc _ (h2 h))
  split
  · exact upd_ok hc (mod_ok _)
  split
  · exact upd_ok hc (mod_ok _)
  split
  · exact upd_ok hc (mod_ok _)
  split
  · split
    · rename_i h; exact upd_ok hc (hg h)
    · exact hc
  · exact hc
theorem cellsF_other {o : O3} {c : Nat → Int} {got : Int} {is : Bool} (i : Nat) (hi : i ≠ o.2.1.toNat) : cellsF o c got is i = c i := by
  unfold cellsF
  repeat' split
  all_goals first | rfl | exact upd_other _ _ hi
theorem cellsF_send {o : O3} {c : Nat → Int} {got : Int} {is : Bool} (h : o.1 = 8) : cellsF o c got is = c := by
  unfold cellsF
  rw [if_neg (by omega), if_neg (by omega), if_neg (by omega), if_neg (by omega), if_neg (by omega), if_neg (by omega)]
theorem cellsF_got {o : O3} {c : Nat → Int} {got got' : Int} {is is' : Bool} (h : o.1 ≠ 9) : cellsF o c got is = cellsF o c got' is' := by
  unfold cellsF
  simp only [if_neg h]
theorem nextF_got {o : O3} {s : St} {n : Nat} {is is' : Bool} (h : o.1 ≠ 9) : nextF o s n is = nextF o s n is' := by
  unfold nextF
  simp only [h, false_and]
theorem nextF_ok {o : O3} {s : St} {n : Nat} {is : Bool} (h0 : 0 ≤ s.p) (h1 : s.p < n) (hb : o.1 = 6 ∨ o.1 = 7 → 0 ≤ o.2.2 ∧ o.2.2 < n) : 0 ≤ nextF o s n is ∧ nextF o s n is < n := by
  unfold nextF
  split
  · rename_i h
    exact hb (by rcases h with h | h; exact Or.inr h; exact Or.inl h.1)
  split
  · exact ⟨h0, h1⟩
  split
  · omega
  · omega
theorem sentF_ok {o : O3} {c : Nat → Int} (hc : ∀ i, i < 6 → 0 ≤ c i ∧ c i ≤ 999) (ha : o.2.1.toNat < 6) : -1 ≤ sentF o c ∧ sentF o c ≤ 999 := by
  unfold sentF
  split
  · have := hc _ ha; omega
  · omega
theorem sentF_send {o : O3} {c : Nat → Int} (h : 0 ≤ sentF o c) : o.1 = 8 := by
  unfold sentF at h
  split at h
  · assumption
  · omega
end Go.Proofs.YtjbbpbhlbmmekaeGreatDoor
namespace Go.Proofs.YtjbbpbhlbmmekaeGreatDoor

/-- A number put into a list that rises, once; 'done': it is there. -/
def putGo (n : Int) : Bool → List Int → List Int
  | done, [] => if done then [] else [n]
  | done, x :: xs => if done then x :: putGo n true xs else if x = n then x :: putGo n true xs else if n < x then n :: x :: putGo n true xs else x :: putGo n false xs
theorem putGo_true (n : Int) : ∀ l, putGo n true l = l
  | [] => rfl
  | x :: xs => by simp [putGo, putGo_true n xs]
theorem putGo_nil (n : Int) : putGo n false [] = [n] := rfl
theorem putGo_eq {n x : Int} (h : x = n) (xs : List Int) : putGo n false (x :: xs) = x :: xs := by simp [putGo, h, putGo_true]
theorem putGo_lt {n x : Int} (h : n < x) (xs : List Int) : putGo n false (x :: xs) = n :: x :: xs := by
  have : x ≠ n := by omega
  simp [putGo, this, h, putGo_true]
theorem putGo_gt {n x : Int} (h : x < n) (xs : List Int) : putGo n false (x :: xs) = x :: putGo n false xs := by
  have h1 : x ≠ n := by omega
  have h2 : ¬ n < x := by omega
  simp [putGo, h1, h2]
theorem putGo_len (n : Int) : ∀ d l, (putGo n d l).length ≤ l.length + 1
  | d, [] => by unfold putGo; split <;> simp
  | d, x :: xs => by
    have h1 := putGo_len n true xs
    have h2 := putGo_len n false xs
    have h3 := congrArg List.length (putGo_true n xs)
    unfold putGo
    repeat' split
    all_goals simp only [List.length_cons]; omega
/-- The numbers from s on, k many, of which p says yes. -/
def pickN (p : Nat → Bool) (s k : Nat) : List Int := ((List.range' s k).filter p).map Int.ofNat
theorem pickN_zero (p : Nat → Bool) (s : Nat) : pickN p s 0 = [] := rfl
theorem pickN_succ (p : Nat → Bool) (s k : Nat) : pickN p s (k + 1) = if p s then (s : Int) :: pickN p (s + 1) k else pickN p (s + 1) k := by
  unfold pickN
  rw [List.range'_succ, List.filter_cons]
  split <;> simp
theorem pickN_congr {p q : Nat → Bool} {s k : Nat} (h : ∀ i, s ≤ i → i < s + k → p i = q i) : pickN p s k = pickN q s k := by
  unfold pickN
  congr 1
  apply List.filter_congr
  intro x hx
  rw [List.mem_range'_1] at hx
  exact h x hx.1 (by omega)
theorem pickN_gt (p : Nat → Bool) : ∀ (k s : Nat) (n : Int), n < s → putGo n false (pickN p s k) = n :: pickN p s k
  | 0, s, n, _ => rfl
  | k + 1, s, n, h => by
    rw [pickN_succ]
    split
    · exact putGo_lt h _
    · exact pickN_gt p k (s + 1) n (by omega)
theorem pickN_put (p : Nat → Bool) (m : Nat) : ∀ (k s : Nat), s ≤ m → m < s + k → putGo m false (pickN p s k) = pickN (fun i => p i || i == m) s k
  | 0, s, h1, h2 => by omega
  | k + 1, s, h1, h2 => by
    rw [pickN_succ, pickN_succ]
    by_cases hs : s = m
    · subst hs
      have hc : pickN (fun i => p i || i == s) (s + 1) k = pickN p (s + 1) k := pickN_congr fun i hi _ => by
        have : (i == s) = false := by simp; omega
        simp [this]
      simp only [beq_self_eq_true, Bool.or_true, if_true]
      rw [hc]
      split
      · exact putGo_eq rfl _
      · exact pickN_gt p k (s + 1) s (by omega)
    · have hsm : (s == m) = false := by simpa using hs
      simp only [hsm, Bool.or_false]
      have ih := pickN_put p m k (s + 1) (by omega) (by omega)
      split
      · rw [putGo_gt (by omega), ih]
      · exact ih
/-- An op of that What on that wire. -/
def onW (what : Int) (i : Nat) (o : O3) : Bool := decide (o.1 = what) && decide (o.2.2 = (i : Int))
def wiresB (what : Int) (l : List O3) : List Int := pickN (fun i => l.any (onW what i)) 0 12
def portStep (what : Int) (acc : List Int) (o : O3) : List Int := if o.1 = what then putGo o.2.2 false acc else acc
theorem wires_nil (what : Int) : wiresB what [] = [] := rfl
theorem wires_snoc (what : Int) (l : List O3) (o : O3) (h : o.1 = what → 0 ≤ o.2.2 ∧ o.2.2 < 12) : wiresB what (l ++ [o]) = portStep what (wiresB what l) o := by
  unfold portStep
  by_cases hw : o.1 = what
  · obtain ⟨h1, h2⟩ := h hw
    rw [if_pos hw]
    obtain ⟨m, hm⟩ : ∃ m : Nat, o.2.2 = m := ⟨o.2.2.toNat, by omega⟩
    rw [hm]
    unfold wiresB
    rw [pickN_put _ m 12 0 (by omega) (by omega)]
    apply pickN_congr
    intro i _ _
    have e : onW what i o = (i == m) := by
      rw [Bool.eq_iff_iff]
      simp [onW, hw, hm]
      omega
    rw [List.any_append]
    simp [e]
  · rw [if_neg hw]
    unfold wiresB
    apply pickN_congr
    intro i _ _
    have e : onW what i o = false := by simp [onW, hw]
    rw [List.any_append]
    simp [e]
theorem wires_len (what : Int) (l : List O3) : (wiresB what l).length ≤ 12 := by
  unfold wiresB pickN
  rw [List.length_map]
  have := List.length_filter_le (fun i => l.any (onW what i)) (List.range' 0 12)
  simpa using this
/-- The first i wires of them. -/
theorem pick_snoc (p : Nat → Bool) (k : Nat) : pickN p 0 (k + 1) = if p k then pickN p 0 k ++ [(k : Int)] else pickN p 0 k := by
  unfold pickN
  rw [List.range'_1_concat, List.filter_append, List.map_append]
  simp only [Nat.zero_add, List.filter_cons, List.filter_nil]
  split <;> simp
theorem pick_len (p : Nat → Bool) (k : Nat) : (pickN p 0 k).length ≤ k := by
  unfold pickN
  rw [List.length_map]
  have := List.length_filter_le p (List.range' 0 k)
  simpa using this
end Go.Proofs.YtjbbpbhlbmmekaeGreatDoor
