/-
  The library's iterator strings.Lines, its state in a captured variable: what it gives.
-/
import Derived.Test.YtkoomlnndnjllahGreatDoorJb1
import Derived.Test.YtkoomlnndnjllahGreatDoorJb2
import Derived.Shelf.Abstract
import Derived.Shelf.RegionOpen
import Derived.OwnWalkIn
import Derived.TacticsInMore
import Derived.LoopNIn
import Derived.LoopIn
namespace Go.Proofs.YtkoomlnndnjllahGreatDoor
open Go.RowKit Go.Shelf
attribute [local go_sem] Oper.semAt_some

def encS (l : List UInt8) : Value := .string ⟨l.toArray⟩
/-- How long the text is that a box holds. -/
def boxLen (b : Nat) (w : World) : Nat := match w.cell? ⟨b, 0, none⟩ with | some (.string s) => s.size | _ => 0
theorem boxLen_of {b : Nat} {w : World} {l : List UInt8} {t : TypeId} (h : Boxed w b t (encS l)) : boxLen b w = l.length := by
  unfold boxLen; rw [h.cell]; simp [encS, ByteArray.size]

theorem Boxed.of_cell {W : World} {B : Nat} {t : TypeId} {v u : Value} (h : Boxed W B t v) (hc : W.cell? ⟨B, 0, none⟩ = some u) : Boxed W B t u := by
  rw [h.cell] at hc
  obtain rfl := Option.some.inj hc
  exact h
theorem take_mid (u v : List UInt8) (c : UInt8) : (u ++ c :: v).take (u.length + 1) = u ++ [c] := by
  rw [show u ++ c :: v = (u ++ [c]) ++ v by simp, List.take_append_of_le_length (by simp), List.take_of_length_le (by simp)]
theorem drop_mid (u v : List UInt8) (c : UInt8) : (u ++ c :: v).drop (u.length + 1) = v := by
  rw [show u ++ c :: v = (u ++ [c]) ++ v by simp, List.drop_append_of_le_length (by simp), List.drop_of_length_le (by simp), List.nil_append]
theorem ba_size' (l : List UInt8) : (ByteArray.mk l.toArray).size = l.length := by simp [ByteArray.size]

/-- Texts that are not too long. -/
abbrev ShortN (N : Nat) := { x : List UInt8 // x.length ≤ N }
abbrev Short := ShortN 1099511627776
set_option maxRecDepth 1000000 in
set_option maxHeartbeats 4000000 in
theorem lines_givesN (N : Nat) (hN : N ≤ 140737488355328) (text : List UInt8) (Bi : Nat) (w : World) (hB : Boxed w Bi 9 (encS text)) (hl : text.length ≤ N) :
    Gives Fence.wide 3 Tryz.prog 71 #[.pointer (some ⟨Bi, 0, none⟩)] (fun x : ShortN N => encS x.1) Bi 1 (fun xs => xs.map (·.1) = linesB text) (fun pre => pre.map (·.1) <+: linesB text) text.length w := by
  intro l J Jx W hbel hJ hJx hY h0
  have hBW : Boxed W Bi 9 (encS text) := (hbel.block Bi hB.lt).trans hB
  refine callsIn_of_wp Tryz.func71 rfl trivial ?_ rfl
  simp only [Tryz.ntmps71, List.size_toArray, List.length_cons, List.length_nil, Nat.reduceAdd, Nat.reduceSub, Array.replicate_succ, Array.replicate_zero, List.push_toArray, List.append_toArray, List.nil_append, List.cons_append]
  gi_wp2
  gi_loopw [] (fun wr => ∃ (pre : List (ShortN N)) (rest : List UInt8), Boxed wr Bi 9 (encS rest) ∧ pre.map (·.1) ++ linesB rest = linesB text ∧ pre.length + rest.length ≤ text.length ∧ J pre wr) (fun wr => boxLen Bi wr)
  case atStart => exact ⟨[], text, hBW, by simp, by simp, h0⟩
  case round =>
    obtain ⟨pre, rest, hbx, heq, hlen, hJr⟩ := hrel
    by_cases hne : rest = []
    · subst hne
      have hc : wr.cell? ⟨Bi, 0, none⟩ = some (.string ⟨#[]⟩) := hbx.cell
      have HQ : Hid (pre.map (·.1) = linesB text) := by show _ = _; rw [← heq, lines_nil, List.append_nil]
      clear heq
      gi_wp2
      go_end0
      exact ⟨⟨_, rfl⟩, Or.inl ⟨pre, HQ.out, hJr⟩⟩
    · have hpos : 0 < rest.length := List.length_pos_iff.2 hne
      have hfz := hbx.frozen
      obtain ⟨r, hr⟩ : ∃ r : ByteArray, r = ⟨rest.toArray⟩ := ⟨_, rfl⟩
      have hc : wr.cell? ⟨Bi, 0, none⟩ = some (.string r) := by rw [hr]; exact hbx.cell
      have hrs : r.size = rest.length := by rw [hr, ba_size']
      have hrd : r.data.toList = rest := by rw [hr]
      have hpos' : 0 < r.size := by omega
      have hix := Tryz.strings_IndexByte r 10 wr
      rw [hrd] at hix
      have hlt : pre.length < text.length := by omega
      rcases idx_cases 10 rest with ⟨hno, hi⟩ | ⟨u, v, hu, hnu, hi⟩
      · rw [show ((10 : Int).toNat.toUInt8) = 10 from rfl, hi] at hix
        have hJ' : J pre (wr.setCell ⟨Bi, 0, none⟩ (.string ⟨#[]⟩)) := hJ _ _ _ hJr (grownBy_setCell' _ _ _)
        obtain ⟨fn, tmps, assign, body, hy, hR⟩ := hY pre ⟨rest, by omega⟩ _ hJ' hlt
        simp only at hy
        rw [show encS rest = .string r by rw [hr]; rfl] at hy
        have HL : Hid (linesB text = pre.map (·.1) ++ [rest]) := by show _ = _; rw [← heq, lines_end hno hne]
        have HN : Hid (boxLen Bi wr = rest.length) := boxLen_of hbx
        have hbx2 := hbx.set (.string ⟨#[]⟩)
        clear heq hno hne hr hi
        gi_wp2_with (refine ⟨trivial, ?_⟩; gi_at_call 72; refine (callsIn_wide.2 hix).mono ?_; rintro e w' ⟨rfl, hw'⟩; subst hw')
        refine hR.mono ?_
        rintro e W3 (⟨rfl, hJ3, hk3⟩ | ⟨rfl, hJx3⟩)
        · have hbx3 : Boxed W3 Bi 9 (encS []) := (hk3 Bi (Nat.le_refl _) (by omega)).trans hbx2
          have HM : Hid (boxLen Bi W3 = 0) := boxLen_of hbx3
          clear hy hR
          gi_wp2
          go_roundw
          case rel => exact ⟨pre ++ [⟨rest, _⟩], [], hbx3, by rw [lines_nil, List.append_nil, HL.out]; simp, by simp; omega, hJ3⟩
          case measure => rw [HM.out, HN.out]; exact hpos
        · clear hy hR
          gi_wp2
          refine bodyPost_ret (results_none rfl _ _ _) rfl ?_
          exact ⟨⟨_, rfl⟩, Or.inr ⟨pre ++ [⟨rest, _⟩], by rw [HL.out]; simp, hJx3⟩⟩
      · rw [show ((10 : Int).toNat.toUInt8) = 10 from rfl, hi] at hix
        have hul : u.length + 1 + v.length = rest.length := by rw [hu]; simp; omega
        have hx1 : r.extract 0 (u.length + 1) = ⟨(u ++ [10]).toArray⟩ := by rw [ext_eq, hrd, hu, take_mid]; rfl
        have hx2 : r.extract (u.length + 1) rest.length = ⟨v.toArray⟩ := by rw [ext_eq, hrd, List.take_length, hu, drop_mid]
        have hbx2 : Boxed (wr.setCell ⟨Bi, 0, none⟩ (.string (r.extract (u.length + 1) rest.length))) Bi 9 (encS v) := by rw [hx2]; exact hbx.set _
        have hJ' : J pre (wr.setCell ⟨Bi, 0, none⟩ (.string (r.extract (u.length + 1) rest.length))).drew := hJ _ _ _ hJr ⟨rfl, rfl, rfl, by simp [World.setCell], (grownBy_setCell' wr Bi _).block⟩
        obtain ⟨fn, tmps, assign, body, hy, hR⟩ := hY pre ⟨u ++ [10], by simp; omega⟩ _ hJ' hlt
        simp only at hy
        rw [show encS (u ++ [10]) = .string (r.extract 0 (u.length + 1)) by rw [hx1]; rfl] at hy
        have HL : Hid (linesB text = pre.map (·.1) ++ (u ++ [10]) :: linesB v) := by show _ = _; rw [← heq, hu, lines_at v hnu]
        have HN : Hid (boxLen Bi wr = rest.length) := boxLen_of hbx
        have hub : (u.length : Int) < r.size := by omega
        have hub2 : u.length + 1 ≤ r.size := by omega
        clear heq hne hr hi hu hx1 hx2 hrd
        gi_wp2_with (refine ⟨trivial, ?_⟩; gi_at_call 72; refine (callsIn_wide.2 hix).mono ?_; rintro e w' ⟨rfl, hw'⟩; subst hw')
        gi_region
        gi_wp2
        refine hR.mono ?_
        rintro e W3 (⟨rfl, hJ3, hk3⟩ | ⟨rfl, hJx3⟩)
        · have hbx3 : Boxed W3 Bi 9 (encS v) := (hk3 Bi (Nat.le_refl _) (by omega)).trans hbx2
          have HM : Hid (boxLen Bi W3 = v.length) := boxLen_of hbx3
          clear hy hR
          gi_wp2
          go_roundw
          case rel => exact ⟨pre ++ [⟨u ++ [10], _⟩], v, hbx3, by rw [HL.out]; simp, by simp; omega, hJ3⟩
          case measure => rw [HM.out, HN.out]; omega
        · clear hy hR
          gi_wp2
          refine bodyPost_ret (results_none rfl _ _ _) rfl ?_
          exact ⟨⟨_, rfl⟩, Or.inr ⟨pre ++ [⟨u ++ [10], _⟩], by rw [HL.out]; exact ⟨linesB v, by simp⟩, hJx3⟩⟩
theorem lines_gives (text : List UInt8) (Bi : Nat) (w : World) (hB : Boxed w Bi 9 (encS text)) (hl : text.length ≤ 1099511627776) :
    Gives Fence.wide 3 Tryz.prog 71 #[.pointer (some ⟨Bi, 0, none⟩)] (fun x : Short => encS x.1) Bi 1 (fun xs => xs.map (·.1) = linesB text) (fun pre => pre.map (·.1) <+: linesB text) text.length w := lines_givesN 1099511627776 (by omega) text Bi w hB hl
end Go.Proofs.YtkoomlnndnjllahGreatDoor
