/-
  Seqs, CutSfx, FourB, LinesL, Cut1, SplitS: joined into one text.
-/
import Derived.Test.YtajfgmlockjmhaiGreatDoorJt1
import Derived.Test.YtajfgmlockjmhaiGreatDoorJt5
import Derived.Test.YtajfgmlockjmhaiGreatDoorJt2
import Derived.Shelf.Abstract
import Derived.Shelf.RegionOpen
import Derived.OwnWalkIn
import Derived.TacticsInMore
import Derived.LoopNIn
import Derived.LoopIn
namespace Go.Proofs.YtajfgmlockjmhaiGreatDoor
open Go.RowKit Go.Shelf
attribute [local go_sem] Oper.semAt_some

def encS (l : List UInt8) : Value := .string ⟨l.toArray⟩
/-- How long the text is that a box holds. -/
def boxLen (b : Nat) (w : World) : Nat := match w.cell? ⟨b, 0, none⟩ with | some (.string s) => s.size | _ => 0
theorem boxLen_of {b : Nat} {w : World} {l : List UInt8} {t : TypeId} (h : Boxed w b t (encS l)) : boxLen b w = l.length := by
  unfold boxLen; rw [h.cell]; simp [encS, ByteArray.size]

theorem Boxed.of_cell {W : World} {B : Nat} {t : TypeId} {v u : Value} (h : Boxed W B t v) (hc : W.cell? ⟨B, 0, none⟩ = some u) : Boxed W B t u := by
  rw [h.cell] at hc
  obtain rfl := Option.some.inj hc
  exact h
theorem take_mid (u v : List UInt8) (c : UInt8) : (u ++ c :: v).take (u.length + 1) = u ++ [c] := by
  rw [show u ++ c :: v = (u ++ [c]) ++ v by simp, List.take_append_of_le_length (by simp), List.take_of_length_le (by simp)]
theorem drop_mid (u v : List UInt8) (c : UInt8) : (u ++ c :: v).drop (u.length + 1) = v := by
  rw [show u ++ c :: v = (u ++ [c]) ++ v by simp, List.drop_append_of_le_length (by simp), List.drop_of_length_le (by simp), List.nil_append]
theorem ba_size' (l : List UInt8) : (ByteArray.mk l.toArray).size = l.length := by simp [ByteArray.size]

/-- Texts that are not too long. -/
abbrev ShortN (N : Nat) := { x : List UInt8 // x.length ≤ N }
set_option maxRecDepth 1000000 in
set_option maxHeartbeats 4000000 in
theorem lines_givesN (N : Nat) (hN : N ≤ 140737488355328) (text : List UInt8) (Bi : Nat) (w : World) (hB : Boxed w Bi 9 (encS text)) (hl : text.length ≤ N) :
    Gives Fence.wide 3 Tryz.prog 109 #[.pointer (some ⟨Bi, 0, none⟩)] (fun x : ShortN N => encS x.1) Bi 1 (fun xs => xs.map (·.1) = linesB text) (fun pre => pre.map (·.1) <+: linesB text) text.length w := by
  intro l J Jx W hbel hJ hJx hY h0
  have hBW : Boxed W Bi 9 (encS text) := (hbel.block Bi hB.lt).trans hB
  refine callsIn_of_wp Tryz.func109 rfl trivial ?_ rfl
  simp only [Tryz.ntmps109, List.size_toArray, List.length_cons, List.length_nil, Nat.reduceAdd, Nat.reduceSub, Array.replicate_succ, Array.replicate_zero, List.push_toArray, List.append_toArray, List.nil_append, List.cons_append]
  gi_wp2
  gi_loopw [] (fun wr => ∃ (pre : List (ShortN N)) (rest : List UInt8), Boxed wr Bi 9 (encS rest) ∧ pre.map (·.1) ++ linesB rest = linesB text ∧ pre.length + rest.length ≤ text.length ∧ J pre wr) (fun wr => boxLen Bi wr)
  case atStart => exact ⟨[], text, hBW, by simp, by simp, h0⟩
  case round =>
    obtain ⟨pre, rest, hbx, heq, hlen, hJr⟩ := hrel
    by_cases hne : rest = []
    · subst hne
      have hc : wr.cell? ⟨Bi, 0, none⟩ = some (.string ⟨#[]⟩) := hbx.cell
      have HQ : Hid (pre.map (·.1) = linesB text) := by show _ = _; rw [← heq, lines_nil, List.append_nil]
      clear heq
      gi_wp2
      go_end0
      exact ⟨⟨_, rfl⟩, Or.inl ⟨pre, HQ.out, hJr⟩⟩
    · have hpos : 0 < rest.length := List.length_pos_iff.2 hne
      have hfz := hbx.frozen
      obtain ⟨r, hr⟩ : ∃ r : ByteArray, r = ⟨rest.toArray⟩ := ⟨_, rfl⟩
      have hc : wr.cell? ⟨Bi, 0, none⟩ = some (.string r) := by rw [hr]; exact hbx.cell
      have hrs : r.size = rest.length := by rw [hr, ba_size']
      have hrd : r.data.toList = rest := by rw [hr]
      have hpos' : 0 < r.size := by omega
      have hix := Tryz.strings_IndexByte r 10 wr
      rw [hrd] at hix
      have hlt : pre.length < text.length := by omega
      rcases idx_cases 10 rest with ⟨hno, hi⟩ | ⟨u, v, hu, hnu, hi⟩
      · rw [show ((10 : Int).toNat.toUInt8) = 10 from rfl, hi] at hix
        have hJ' : J pre (wr.setCell ⟨Bi, 0, none⟩ (.string ⟨#[]⟩)) := hJ _ _ _ hJr (grownBy_setCell' _ _ _)
        obtain ⟨fn, tmps, assign, body, hy, hR⟩ := hY pre ⟨rest, by omega⟩ _ hJ' hlt
        simp only at hy
        rw [show encS rest = .string r by rw [hr]; rfl] at hy
        have HL : Hid (linesB text = pre.map (·.1) ++ [rest]) := by show _ = _; rw [← heq, lines_end hno hne]
        have HN : Hid (boxLen Bi wr = rest.length) := boxLen_of hbx
        have hbx2 := hbx.set (.string ⟨#[]⟩)
        clear heq hno hne hr hi
        gi_wp2_with (refine ⟨trivial, ?_⟩; gi_at_call 110; refine (callsIn_wide.2 hix).mono ?_; rintro e w' ⟨rfl, hw'⟩; subst hw')
        refine hR.mono ?_
        rintro e W3 (⟨rfl, hJ3, hk3⟩ | ⟨rfl, hJx3⟩)
        · have hbx3 : Boxed W3 Bi 9 (encS []) := (hk3 Bi (Nat.le_refl _) (by omega)).trans hbx2
          have HM : Hid (boxLen Bi W3 = 0) := boxLen_of hbx3
          clear hy hR
          gi_wp2
          go_roundw
          case rel => exact ⟨pre ++ [⟨rest, _⟩], [], hbx3, by rw [lines_nil, List.append_nil, HL.out]; simp, by simp; omega, hJ3⟩
          case measure => rw [HM.out, HN.out]; exact hpos
        · clear hy hR
          gi_wp2
          refine bodyPost_ret (results_none rfl _ _ _) rfl ?_
          exact ⟨⟨_, rfl⟩, Or.inr ⟨pre ++ [⟨rest, _⟩], by rw [HL.out]; simp, hJx3⟩⟩
      · rw [show ((10 : Int).toNat.toUInt8) = 10 from rfl, hi] at hix
        have hul : u.length + 1 + v.length = rest.length := by rw [hu]; simp; omega
        have hx1 : r.extract 0 (u.length + 1) = ⟨(u ++ [10]).toArray⟩ := by rw [ext_eq, hrd, hu, take_mid]; rfl
        have hx2 : r.extract (u.length + 1) rest.length = ⟨v.toArray⟩ := by rw [ext_eq, hrd, List.take_length, hu, drop_mid]
        have hbx2 : Boxed (wr.setCell ⟨Bi, 0, none⟩ (.string (r.extract (u.length + 1) rest.length))) Bi 9 (encS v) := by rw [hx2]; exact hbx.set _
        have hJ' : J pre (wr.setCell ⟨Bi, 0, none⟩ (.string (r.extract (u.length + 1) rest.length))).drew := hJ _ _ _ hJr ⟨rfl, rfl, rfl, by simp [World.setCell], (grownBy_setCell' wr Bi _).block⟩
        obtain ⟨fn, tmps, assign, body, hy, hR⟩ := hY pre ⟨u ++ [10], by simp; omega⟩ _ hJ' hlt
        simp only at hy
        rw [show encS (u ++ [10]) = .string (r.extract 0 (u.length + 1)) by rw [hx1]; rfl] at hy
        have HL : Hid (linesB text = pre.map (·.1) ++ (u ++ [10]) :: linesB v) := by show _ = _; rw [← heq, hu, lines_at v hnu]
        have HN : Hid (boxLen Bi wr = rest.length) := boxLen_of hbx
        have hub : (u.length : Int) < r.size := by omega
        have hub2 : u.length + 1 ≤ r.size := by omega
        clear heq hne hr hi hu hx1 hx2 hrd
        gi_wp2_with (refine ⟨trivial, ?_⟩; gi_at_call 110; refine (callsIn_wide.2 hix).mono ?_; rintro e w' ⟨rfl, hw'⟩; subst hw')
        gi_region
        gi_wp2
        refine hR.mono ?_
        rintro e W3 (⟨rfl, hJ3, hk3⟩ | ⟨rfl, hJx3⟩)
        · have hbx3 : Boxed W3 Bi 9 (encS v) := (hk3 Bi (Nat.le_refl _) (by omega)).trans hbx2
          have HM : Hid (boxLen Bi W3 = v.length) := boxLen_of hbx3
          clear hy hR
          gi_wp2
          go_roundw
          case rel => exact ⟨pre ++ [⟨u ++ [10], _⟩], v, hbx3, by rw [HL.out]; simp, by simp; omega, hJ3⟩
          case measure => rw [HM.out, HN.out]; omega
        · clear hy hR
          gi_wp2
          refine bodyPost_ret (results_none rfl _ _ _) rfl ?_
          exact ⟨⟨_, rfl⟩, Or.inr ⟨pre ++ [⟨u ++ [10], _⟩], by rw [HL.out]; exact ⟨linesB v, by simp⟩, hJx3⟩⟩
end Go.Proofs.YtajfgmlockjmhaiGreatDoor
namespace Go.Proofs.YtajfgmlockjmhaiGreatDoor
open Go.RowKit

theorem suffix_yes7 (s : ByteArray) (u : List UInt8) (w : World) (hs : s.data.toList = u ++ [10]) (hl : s.size ≤ 140737488355328) :
    Calls Tryz.prog 111 #[.string s, .string ⟨#[10]⟩] w fun e w' => e = .returned (.tuple #[.string ⟨u.toArray⟩, .bool true]) ∧ w' = w := by
  have h := Tryz.strings_CutSuffix s ⟨#[10]⟩ w (by omega)
  have e1 : Lib.hasSuffix s.data.toList [10] = true := by rw [hs]; simp [Lib.hasSuffix]
  have e2 : Lib.trimSuffix s.data.toList [10] = u := by rw [hs]; simp [Lib.trimSuffix, Lib.hasSuffix]
  simp only at h
  rw [show ([10] : List UInt8) = (#[10] : Array UInt8).toList from rfl] at e1 e2
  rw [e1, e2] at h
  exact h
theorem suffix_yes (s : ByteArray) (u : List UInt8) (w : World) (hs : s.data.toList = u ++ [10]) (hl : s.size ≤ 1099511627776) :
    Calls Tryz.prog 111 #[.string s, .string ⟨#[10]⟩] w fun e w' => e = .returned (.tuple #[.string ⟨u.toArray⟩, .bool true]) ∧ w' = w := suffix_yes7 s u w hs (by omega)
theorem suffix_no (s : ByteArray) (w : World) (hs : ∀ u, s.data.toList ≠ u ++ [10]) (hl : s.size ≤ 1099511627776) :
    Calls Tryz.prog 111 #[.string s, .string ⟨#[10]⟩] w fun e w' => (∃ t, e = .returned (.tuple #[.string t, .bool false])) ∧ w' = w := by
  refine (Tryz.strings_CutSuffix s ⟨#[10]⟩ w (by omega)).mono ?_
  rintro e w' ⟨rfl, rfl⟩
  have e1 : Lib.hasSuffix s.data.toList [10] = false := by
    rw [Bool.eq_false_iff]
    intro h
    have : [10] <:+ s.data.toList := by simpa [Lib.hasSuffix] using h
    obtain ⟨u, hu⟩ := this
    exact hs u hu.symm
  rw [show ([10] : List UInt8) = (#[10] : Array UInt8).toList from rfl] at e1
  exact ⟨⟨_, by rw [e1]⟩, rfl⟩
end Go.Proofs.YtajfgmlockjmhaiGreatDoor
namespace Go.Proofs.YtajfgmlockjmhaiGreatDoor
open Go.RowKit Go.Shelf

/-- The four boxes that words.Read lays at its head, in a later world. -/
theorem four_boxes {w w2 : World} {t0 t1 t2 t3 : TypeId} {v0 v1 v2 v3 : Value}
    (b2 : Below ((((w.alloc (.cells #[v0] t0)).alloc (.cells #[v1] t1)).alloc (.cells #[v2] t2)).alloc (.cells #[v3] t3)).heap.size ((((w.alloc (.cells #[v0] t0)).alloc (.cells #[v1] t1)).alloc (.cells #[v2] t2)).alloc (.cells #[v3] t3)) w2) :
    Boxed w2 w.heap.size t0 v0 ∧ Boxed w2 (w.heap.size + 1) t1 v1 ∧ Boxed w2 (w.heap.size + 1 + 1) t2 v2 ∧ Boxed w2 (w.heap.size + 1 + 1 + 1) t3 v3 ∧ Below w.heap.size w w2 ∧ w.heap.size + 4 ≤ w2.heap.size := by
  have h0 := Boxed.new w t0 v0
  have h1 := Boxed.new (w.alloc (.cells #[v0] t0)) t1 v1
  have h2 := Boxed.new ((w.alloc (.cells #[v0] t0)).alloc (.cells #[v1] t1)) t2 v2
  have h3 := Boxed.new (((w.alloc (.cells #[v0] t0)).alloc (.cells #[v1] t1)).alloc (.cells #[v2] t2)) t3 v3
  simp only [World.size_alloc] at h1 h2 h3
  have hs := b2.size
  simp only [World.size_alloc] at hs
  refine ⟨(b2.block _ (by simp; omega)).trans (((h0.alloc _).alloc _).alloc _), (b2.block _ (by simp)).trans ((h1.alloc _).alloc _), (b2.block _ (by simp)).trans (h2.alloc _), (b2.block _ (by simp)).trans h3, ?_, by omega⟩
  exact (((((Below.refl _ w).alloc (Nat.le_refl _) _).alloc (by simp) _).alloc (by simp; omega) _).alloc (by simp; omega) _).trans (b2.mono (by simp; omega))
end Go.Proofs.YtajfgmlockjmhaiGreatDoor
namespace Go.Proofs.YtajfgmlockjmhaiGreatDoor
open Go.RowKit Go.Shelf

theorem lines_any (s : ByteArray) (w : World) :
    Calls Tryz.prog 74 #[.string s] w fun e w' => e = .returned (.func (.func 109) #[] #[.pointer (some ⟨w.heap.size, 0, none⟩)]) ∧ w' = w.alloc (.cells #[.string s] 9) := by
  go_enter Tryz.func74, Tryz.ntmps74
  go_wp2
  go_ret
  exact ⟨rfl, rfl⟩
end Go.Proofs.YtajfgmlockjmhaiGreatDoor
namespace Go.Proofs.YtajfgmlockjmhaiGreatDoor
open Go.RowKit

set_option maxRecDepth 100000 in
set_option maxHeartbeats 2000000 in
theorem cut1_no0 (s : ByteArray) (w : World) (hno : (32 : UInt8) ∉ s.data.toList) :
    Calls Tryz.prog 150 #[.string s, .string ⟨#[32]⟩] w fun e w' => e = .returned (.tuple #[.string s, .string ⟨#[]⟩, .bool false]) ∧ Below w.heap.size w w' := by
  have hix := Tryz.stringslite_Index_one s 32 w
  have hi : Lib.indexByte s.data.toList 32 = -1 := by
    rcases idx_cases 32 s.data.toList with ⟨_, h⟩ | ⟨u, v, h, _, _⟩
    · exact h
    · exact absurd (by rw [h]; simp) hno
  rw [hi] at hix
  clear hi hno
  go_enter Tryz.func150, Tryz.ntmps150
  go_wp2_with (go_at_call 164; refine hix.mono ?_; rintro e w' ⟨rfl, hw'⟩; subst hw')
  go_ret3
  exact ⟨rfl, Below.refl _ _⟩
set_option maxRecDepth 100000 in
set_option maxHeartbeats 2000000 in
theorem cut1_yes0 (s : ByteArray) (u v : List UInt8) (w : World) (hs : s.data.toList = u ++ 32 :: v) (hu : (32 : UInt8) ∉ u) (hl : s.size ≤ 1099511627776) :
    Calls Tryz.prog 150 #[.string s, .string ⟨#[32]⟩] w fun e w' => e = .returned (.tuple #[.string ⟨u.toArray⟩, .string ⟨v.toArray⟩, .bool true]) ∧ Below w.heap.size w w' := by
  have hix := Tryz.stringslite_Index_one s 32 w
  have hi : Lib.indexByte s.data.toList 32 = u.length := by
    rcases idx_cases 32 s.data.toList with ⟨h, _⟩ | ⟨u', v', h, h', h''⟩
    · exact absurd (by rw [hs]; simp) h
    · have e1 := cutGo_at 32 u [] v hu
      have e2 := cutGo_at 32 u' [] v' h'
      rw [← hs] at e1
      rw [← h] at e2
      have := e1.symm.trans e2
      simp only [List.nil_append, List.cons.injEq] at this
      rw [h'', this.1]
  rw [hi] at hix
  have hsz : s.size = u.length + 1 + v.length := by
    have : s.data.toList.length = s.size := by simp
    rw [← this, hs]; simp; omega
  have hx1 : s.extract 0 u.length = ⟨u.toArray⟩ := by rw [ext_eq, hs]; simp
  have hx2 : s.extract (u.length + 1) s.size = ⟨v.toArray⟩ := by
    have : s.data.toList.length = s.size := by simp
    rw [ext_eq, ← this, List.take_length, hs, drop_mid]
  rw [← hx1, ← hx2]
  have hub : (u.length : Int) < s.size := by omega
  have hub2 : u.length + 1 ≤ s.size := by omega
  have hub3 : (u.length : Int) + 1 ≤ s.size := by omega
  clear hi hs hsz hx1 hx2 hu
  go_enter Tryz.func150, Tryz.ntmps150
  go_wp2_with (go_at_call 164; refine hix.mono ?_; rintro e w' ⟨rfl, hw'⟩; subst hw')
  go_region
  all_goals go_wp2
  all_goals go_ret3
  all_goals exact ⟨rfl, (Below.refl _ _).drew⟩
set_option maxRecDepth 100000 in
set_option maxHeartbeats 2000000 in
theorem cut1_of (s : ByteArray) (w : World) (a b : ByteArray) (c : Bool) (h : Calls Tryz.prog 150 #[.string s, .string ⟨#[32]⟩] w fun e w' => e = .returned (.tuple #[.string a, .string b, .bool c]) ∧ Below w.heap.size w w') :
    Calls Tryz.prog 112 #[.string s, .string ⟨#[32]⟩] w fun e w' => e = .returned (.tuple #[.string a, .string b, .bool c]) ∧ Below w.heap.size w w' := by
  go_enter Tryz.func112, Tryz.ntmps112
  go_wp2_with (go_at_call 150; refine h.mono ?_; rintro e w1 ⟨rfl, b1⟩; clear h)
  go_ret3
  exact ⟨rfl, b1⟩
theorem cut1_no (s : ByteArray) (w : World) (hno : (32 : UInt8) ∉ s.data.toList) :
    Calls Tryz.prog 112 #[.string s, .string ⟨#[32]⟩] w fun e w' => e = .returned (.tuple #[.string s, .string ⟨#[]⟩, .bool false]) ∧ Below w.heap.size w w' := cut1_of _ _ _ _ _ (cut1_no0 s w hno)
theorem cut1_yes (s : ByteArray) (u v : List UInt8) (w : World) (hs : s.data.toList = u ++ 32 :: v) (hu : (32 : UInt8) ∉ u) (hl : s.size ≤ 1099511627776) :
    Calls Tryz.prog 112 #[.string s, .string ⟨#[32]⟩] w fun e w' => e = .returned (.tuple #[.string ⟨u.toArray⟩, .string ⟨v.toArray⟩, .bool true]) ∧ Below w.heap.size w w' := cut1_of _ _ _ _ _ (cut1_yes0 s u v w hs hu hl)
end Go.Proofs.YtajfgmlockjmhaiGreatDoor
namespace Go.Proofs.YtajfgmlockjmhaiGreatDoor
open Go.RowKit Go.Shelf
attribute [local go_sem] Oper.semAt_some

set_option maxRecDepth 1000000 in
set_option maxHeartbeats 4000000 in
theorem split_gives (text : List UInt8) (Bi : Nat) (w : World) (hB : Boxed w Bi 9 (encS text)) (hB1 : Boxed w (Bi + 1) 9 (.string ⟨#[32]⟩)) (hB2 : Boxed w (Bi + 2) 3 (.int .i64 0)) (hl : text.length ≤ 1099511627776) :
    Gives Fence.wide 3 Tryz.prog 165 #[.pointer (some ⟨Bi + 1, 0, none⟩), .pointer (some ⟨Bi, 0, none⟩), .pointer (some ⟨Bi + 2, 0, none⟩)] encS Bi 3 (fun xs => xs = cutB 32 text) (fun pre => pre <+: cutB 32 text) (text.length + 1) w := by
  intro l J Jx W hbel hJ hJx hY h0
  have hBW : Boxed W Bi 9 (encS text) := (hbel.block Bi hB.lt).trans hB
  have hBW1 : Boxed W (Bi + 1) 9 (.string ⟨#[32]⟩) := (hbel.block _ hB1.lt).trans hB1
  have hBW2 : Boxed W (Bi + 2) 3 (.int .i64 0) := (hbel.block _ hB2.lt).trans hB2
  have hc1 := hBW1.cell
  refine callsIn_of_wp Tryz.func165 rfl trivial ?_ rfl
  simp only [Tryz.ntmps165, List.size_toArray, List.length_cons, List.length_nil, Nat.reduceAdd, Nat.reduceSub, Array.replicate_succ, Array.replicate_zero, List.push_toArray, List.append_toArray, List.nil_append, List.cons_append]
  gi_wp2
  clear hc1
  gi_loopw [] (fun wr => ∃ (pre : List (List UInt8)) (rest : List UInt8), Boxed wr Bi 9 (encS rest) ∧ Boxed wr (Bi + 1) 9 (.string ⟨#[32]⟩) ∧ Boxed wr (Bi + 2) 3 (.int .i64 0) ∧ pre ++ cutB 32 rest = cutB 32 text ∧ pre.length + rest.length ≤ text.length ∧ J pre wr) (fun wr => boxLen Bi wr)
  case atStart => exact ⟨[], text, hBW, hBW1, hBW2, by simp, by simp, h0⟩
  case round =>
    obtain ⟨pre, rest, hbx, hbx1, hbx2, heq, hlen, hJr⟩ := hrel
    have hfz := hbx.frozen
    obtain ⟨r, hr⟩ : ∃ r : ByteArray, r = ⟨rest.toArray⟩ := ⟨_, rfl⟩
    have hc : wr.cell? ⟨Bi, 0, none⟩ = some (.string r) := by rw [hr]; exact hbx.cell
    have hc1 := hbx1.cell
    have hc2 := hbx2.cell
    have hrs : r.size = rest.length := by rw [hr, ba_size']
    have hrd : r.data.toList = rest := by rw [hr]
    have hix := Tryz.strings_Index_one r 32 wr
    rw [hrd] at hix
    have hlt : pre.length < text.length + 1 := by omega
    rcases idx_cases 32 rest with ⟨hno, hi⟩ | ⟨u, v, hu, hnu, hi⟩
    · rw [hi] at hix
      obtain ⟨fn, tmps, assign, body, hy, hR⟩ := hY pre rest _ hJr hlt
      rw [show encS rest = .string r by rw [hr]; rfl] at hy
      have HL : Hid (cutB 32 text = pre ++ [rest]) := by show _ = _; rw [← heq]; unfold cutB; rw [cutGo_none 32 rest [] hno]; rfl
      clear heq hno hr hi
      gi_wp2_with (refine ⟨trivial, ?_⟩; gi_at_call 167; refine (callsIn_wide.2 hix).mono ?_; rintro e w' ⟨rfl, hw'⟩; subst hw')
      refine hR.mono ?_
      rintro e W3 (⟨rfl, hJ3, hk3⟩ | ⟨rfl, hJx3⟩)
      · clear hy hR
        gi_wp2
        go_end0
        exact ⟨⟨_, rfl⟩, Or.inl ⟨pre ++ [rest], HL.out.symm, hJ3⟩⟩
      · clear hy hR
        gi_wp2
        go_end0
        exact ⟨⟨_, rfl⟩, Or.inr ⟨pre ++ [rest], by rw [HL.out]; exact List.prefix_refl _, hJx3⟩⟩
    · rw [hi] at hix
      have hul : u.length + 1 + v.length = rest.length := by rw [hu]; simp; omega
      have hx1 : r.extract 0 u.length = ⟨u.toArray⟩ := by rw [ext_eq, hrd, hu]; simp
      have hx2 : r.extract (u.length + 1) rest.length = ⟨v.toArray⟩ := by rw [ext_eq, hrd, List.take_length, hu, drop_mid]
      obtain ⟨fn, tmps, assign, body, hy, hR⟩ := hY pre u _ hJr hlt
      rw [show encS u = .string (r.extract 0 u.length) by rw [hx1]; rfl] at hy
      have HL : Hid (cutB 32 text = pre ++ u :: cutB 32 v) := by show _ = _; rw [← heq, hu]; unfold cutB; rw [cutGo_at 32 u [] v hnu]; rfl
      have HN : Hid (boxLen Bi wr = rest.length) := boxLen_of hbx
      have hub : (u.length : Int) < r.size := by omega
      have hub2 : u.length + 1 ≤ r.size := by omega
      have HX : Hid (r.extract (u.length + 1) rest.length = ⟨v.toArray⟩) := hx2
      clear heq hr hi hu hx1 hx2 hrd
      gi_wp2_with (refine ⟨trivial, ?_⟩; gi_at_call 167; refine (callsIn_wide.2 hix).mono ?_; rintro e w' ⟨rfl, hw'⟩; subst hw')
      refine hR.mono ?_
      rintro e W3 (⟨rfl, hJ3, hk3⟩ | ⟨rfl, hJx3⟩)
      · have ex0 : Boxed W3 Bi 9 (.string r) := (hk3 Bi (Nat.le_refl _) (by omega)).trans (Boxed.of_cell hbx hc)
        have ex1 : Boxed W3 (Bi + 1) 9 (.string ⟨#[32]⟩) := (hk3 (Bi + 1) (by omega) (by omega)).trans hbx1
        have ex2 : Boxed W3 (Bi + 2) 3 (.int .i64 0) := (hk3 (Bi + 2) (by omega) (by omega)).trans hbx2
        have e0 := ex0.cell
        have e1 := ex1.cell
        have ef := ex0.frozen
        have g0 := ex0.set (.string (r.extract (u.length + 1) rest.length))
        have g1 := ex1.other (show Bi + 1 ≠ Bi by omega) (.string (r.extract (u.length + 1) rest.length))
        have g2 := ex2.other (show Bi + 2 ≠ Bi by omega) (.string (r.extract (u.length + 1) rest.length))
        have gJ := hJ _ _ _ hJ3 (grownBy_setCell' W3 Bi (.string (r.extract (u.length + 1) rest.length)))
        have HM : Hid (boxLen Bi (W3.setCell ⟨Bi, 0, none⟩ (.string (r.extract (u.length + 1) rest.length))) = v.length) := by rw [HX.out] at g0 ⊢; exact boxLen_of (l := v) g0
        clear hy hR hc hc1 hc2 hfz
        gi_wp2
        go_roundw
        case rel => exact ⟨pre ++ [u], v, by rw [HX.out] at g0 ⊢; exact g0, g1, g2, by rw [HL.out]; simp, by simp; omega, gJ⟩
        case measure => rw [HM.out, HN.out]; omega
      · clear hy hR
        gi_wp2
        refine bodyPost_ret (results_none rfl _ _ _) rfl ?_
        exact ⟨⟨_, rfl⟩, Or.inr ⟨pre ++ [u], by rw [HL.out]; exact ⟨cutB 32 v, by simp⟩, hJx3⟩⟩
end Go.Proofs.YtajfgmlockjmhaiGreatDoor
