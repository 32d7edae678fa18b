/-
  Seqs, LinesL, CutSfx, FourB, Cut1, SnAll: joined into one text.
-/
import Derived.Test.YtfconbblnmbnpahGreatDoorJa1
import Derived.Test.YtfconbblnmbnpahGreatDoorJa3
import Derived.Shelf.Abstract
import Derived.Shelf.RegionOpen
import Derived.OwnWalkIn
import Derived.TacticsInMore
import Derived.LoopNIn
import Derived.LoopIn
import Derived.Test.YtfconbblnmbnpahGreatDoorJa4
import Derived.Test.YtfconbblnmbnpahGreatDoorJa2
import Derived.Deep.RegionLaw
import Derived.RangeFuncNested
namespace Go.Proofs.YtfconbblnmbnpahGreatDoor
open Go.RowKit Go.Shelf
attribute [local go_sem] Oper.semAt_some

def encS (l : List UInt8) : Value := .string ⟨l.toArray⟩
/-- How long the text is that a box holds. -/
def boxLen (b : Nat) (w : World) : Nat := match w.cell? ⟨b, 0, none⟩ with | some (.string s) => s.size | _ => 0
theorem boxLen_of {b : Nat} {w : World} {l : List UInt8} {t : TypeId} (h : Boxed w b t (encS l)) : boxLen b w = l.length := by
  unfold boxLen; rw [h.cell]; simp [encS, ByteArray.size]

theorem Boxed.of_cell {W : World} {B : Nat} {t : TypeId} {v u : Value} (h : Boxed W B t v) (hc : W.cell? ⟨B, 0, none⟩ = some u) : Boxed W B t u := by
  rw [h.cell] at hc
  obtain rfl := Option.some.inj hc
  exact h
theorem take_mid (u v : List UInt8) (c : UInt8) : (u ++ c :: v).take (u.length + 1) = u ++ [c] := by
  rw [show u ++ c :: v = (u ++ [c]) ++ v by simp, List.take_append_of_le_length (by simp), List.take_of_length_le (by simp)]
theorem drop_mid (u v : List UInt8) (c : UInt8) : (u ++ c :: v).drop (u.length + 1) = v := by
  rw [show u ++ c :: v = (u ++ [c]) ++ v by simp, List.drop_append_of_le_length (by simp), List.drop_of_length_le (by simp), List.nil_append]
theorem ba_size' (l : List UInt8) : (ByteArray.mk l.toArray).size = l.length := by simp [ByteArray.size]

/-- Texts that are not too long. -/
abbrev ShortN (N : Nat) := { x : List UInt8 // x.length ≤ N }
set_option maxRecDepth 1000000 in
set_option maxHeartbeats 4000000 in
theorem lines_givesN (N : Nat) (hN : N ≤ 140737488355328) (text : List UInt8) (Bi : Nat) (w : World) (hB : Boxed w Bi 9 (encS text)) (hl : text.length ≤ N) :
    Gives Fence.wide 3 Tryz.prog 85 #[.pointer (some ⟨Bi, 0, none⟩)] (fun x : ShortN N => encS x.1) Bi 1 (fun xs => xs.map (·.1) = linesB text) (fun pre => pre.map (·.1) <+: linesB text) text.length w := by
  intro l J Jx W hbel hJ hJx hY h0
  have hBW : Boxed W Bi 9 (encS text) := (hbel.block Bi hB.lt).trans hB
  refine callsIn_of_wp Tryz.func85 rfl trivial ?_ rfl
  simp only [Tryz.ntmps85, List.size_toArray, List.length_cons, List.length_nil, Nat.reduceAdd, Nat.reduceSub, Array.replicate_succ, Array.replicate_zero, List.push_toArray, List.append_toArray, List.nil_append, List.cons_append]
  gi_wp2
  gi_loopw [] (fun wr => ∃ (pre : List (ShortN N)) (rest : List UInt8), Boxed wr Bi 9 (encS rest) ∧ pre.map (·.1) ++ linesB rest = linesB text ∧ pre.length + rest.length ≤ text.length ∧ J pre wr) (fun wr => boxLen Bi wr)
  case atStart => exact ⟨[], text, hBW, by simp, by simp, h0⟩
  case round =>
    obtain ⟨pre, rest, hbx, heq, hlen, hJr⟩ := hrel
    by_cases hne : rest = []
    · subst hne
      have hc : wr.cell? ⟨Bi, 0, none⟩ = some (.string ⟨#[]⟩) := hbx.cell
      have HQ : Hid (pre.map (·.1) = linesB text) := by show _ = _; rw [← heq, lines_nil, List.append_nil]
      clear heq
      gi_wp2
      go_end0
      exact ⟨⟨_, rfl⟩, Or.inl ⟨pre, HQ.out, hJr⟩⟩
    · have hpos : 0 < rest.length := List.length_pos_iff.2 hne
      have hfz := hbx.frozen
      obtain ⟨r, hr⟩ : ∃ r : ByteArray, r = ⟨rest.toArray⟩ := ⟨_, rfl⟩
      have hc : wr.cell? ⟨Bi, 0, none⟩ = some (.string r) := by rw [hr]; exact hbx.cell
      have hrs : r.size = rest.length := by rw [hr, ba_size']
      have hrd : r.data.toList = rest := by rw [hr]
      have hpos' : 0 < r.size := by omega
      have hix := Tryz.strings_IndexByte r 10 wr
      rw [hrd] at hix
      have hlt : pre.length < text.length := by omega
      rcases idx_cases 10 rest with ⟨hno, hi⟩ | ⟨u, v, hu, hnu, hi⟩
      · rw [show ((10 : Int).toNat.toUInt8) = 10 from rfl, hi] at hix
        have hJ' : J pre (wr.setCell ⟨Bi, 0, none⟩ (.string ⟨#[]⟩)) := hJ _ _ _ hJr (grownBy_setCell' _ _ _)
        obtain ⟨fn, tmps, assign, body, hy, hR⟩ := hY pre ⟨rest, by omega⟩ _ hJ' hlt
        simp only at hy
        rw [show encS rest = .string r by rw [hr]; rfl] at hy
        have HL : Hid (linesB text = pre.map (·.1) ++ [rest]) := by show _ = _; rw [← heq, lines_end hno hne]
        have HN : Hid (boxLen Bi wr = rest.length) := boxLen_of hbx
        have hbx2 := hbx.set (.string ⟨#[]⟩)
        clear heq hno hne hr hi
        gi_wp2_with (refine ⟨trivial, ?_⟩; gi_at_call 86; refine (callsIn_wide.2 hix).mono ?_; rintro e w' ⟨rfl, hw'⟩; subst hw')
        refine hR.mono ?_
        rintro e W3 (⟨rfl, hJ3, hk3⟩ | ⟨rfl, hJx3⟩)
        · have hbx3 : Boxed W3 Bi 9 (encS []) := (hk3 Bi (Nat.le_refl _) (by omega)).trans hbx2
          have HM : Hid (boxLen Bi W3 = 0) := boxLen_of hbx3
          clear hy hR
          gi_wp2
          go_roundw
          case rel => exact ⟨pre ++ [⟨rest, _⟩], [], hbx3, by rw [lines_nil, List.append_nil, HL.out]; simp, by simp; omega, hJ3⟩
          case measure => rw [HM.out, HN.out]; exact hpos
        · clear hy hR
          gi_wp2
          refine bodyPost_ret (results_none rfl _ _ _) rfl ?_
          exact ⟨⟨_, rfl⟩, Or.inr ⟨pre ++ [⟨rest, _⟩], by rw [HL.out]; simp, hJx3⟩⟩
      · rw [show ((10 : Int).toNat.toUInt8) = 10 from rfl, hi] at hix
        have hul : u.length + 1 + v.length = rest.length := by rw [hu]; simp; omega
        have hx1 : r.extract 0 (u.length + 1) = ⟨(u ++ [10]).toArray⟩ := by rw [ext_eq, hrd, hu, take_mid]; rfl
        have hx2 : r.extract (u.length + 1) rest.length = ⟨v.toArray⟩ := by rw [ext_eq, hrd, List.take_length, hu, drop_mid]
        have hbx2 : Boxed (wr.setCell ⟨Bi, 0, none⟩ (.string (r.extract (u.length + 1) rest.length))) Bi 9 (encS v) := by rw [hx2]; exact hbx.set _
        have hJ' : J pre (wr.setCell ⟨Bi, 0, none⟩ (.string (r.extract (u.length + 1) rest.length))).drew := hJ _ _ _ hJr ⟨rfl, rfl, rfl, by simp [World.setCell], (grownBy_setCell' wr Bi _).block⟩
        obtain ⟨fn, tmps, assign, body, hy, hR⟩ := hY pre ⟨u ++ [10], by simp; omega⟩ _ hJ' hlt
        simp only at hy
        rw [show encS (u ++ [10]) = .string (r.extract 0 (u.length + 1)) by rw [hx1]; rfl] at hy
        have HL : Hid (linesB text = pre.map (·.1) ++ (u ++ [10]) :: linesB v) := by show _ = _; rw [← heq, hu, lines_at v hnu]
        have HN : Hid (boxLen Bi wr = rest.length) := boxLen_of hbx
        have hub : (u.length : Int) < r.size := by omega
        have hub2 : u.length + 1 ≤ r.size := by omega
        clear heq hne hr hi hu hx1 hx2 hrd
        gi_wp2_with (refine ⟨trivial, ?_⟩; gi_at_call 86; refine (callsIn_wide.2 hix).mono ?_; rintro e w' ⟨rfl, hw'⟩; subst hw')
        gi_region
        gi_wp2
        refine hR.mono ?_
        rintro e W3 (⟨rfl, hJ3, hk3⟩ | ⟨rfl, hJx3⟩)
        · have hbx3 : Boxed W3 Bi 9 (encS v) := (hk3 Bi (Nat.le_refl _) (by omega)).trans hbx2
          have HM : Hid (boxLen Bi W3 = v.length) := boxLen_of hbx3
          clear hy hR
          gi_wp2
          go_roundw
          case rel => exact ⟨pre ++ [⟨u ++ [10], _⟩], v, hbx3, by rw [HL.out]; simp, by simp; omega, hJ3⟩
          case measure => rw [HM.out, HN.out]; omega
        · clear hy hR
          gi_wp2
          refine bodyPost_ret (results_none rfl _ _ _) rfl ?_
          exact ⟨⟨_, rfl⟩, Or.inr ⟨pre ++ [⟨u ++ [10], _⟩], by rw [HL.out]; exact ⟨linesB v, by simp⟩, hJx3⟩⟩
end Go.Proofs.YtfconbblnmbnpahGreatDoor
namespace Go.Proofs.YtfconbblnmbnpahGreatDoor
open Go.RowKit Go.Shelf

theorem lines_any (s : ByteArray) (w : World) :
    Calls Tryz.prog 47 #[.string s] w fun e w' => e = .returned (.func (.func 85) #[] #[.pointer (some ⟨w.heap.size, 0, none⟩)]) ∧ w' = w.alloc (.cells #[.string s] 9) := by
  go_enter Tryz.func47, Tryz.ntmps47
  go_wp2
  go_ret
  exact ⟨rfl, rfl⟩
end Go.Proofs.YtfconbblnmbnpahGreatDoor
namespace Go.Proofs.YtfconbblnmbnpahGreatDoor
open Go.RowKit

theorem suffix_yes7 (s : ByteArray) (u : List UInt8) (w : World) (hs : s.data.toList = u ++ [10]) (hl : s.size ≤ 140737488355328) :
    Calls Tryz.prog 87 #[.string s, .string ⟨#[10]⟩] w fun e w' => e = .returned (.tuple #[.string ⟨u.toArray⟩, .bool true]) ∧ w' = w := by
  have h := Tryz.strings_CutSuffix s ⟨#[10]⟩ w (by omega)
  have e1 : Lib.hasSuffix s.data.toList [10] = true := by rw [hs]; simp [Lib.hasSuffix]
  have e2 : Lib.trimSuffix s.data.toList [10] = u := by rw [hs]; simp [Lib.trimSuffix, Lib.hasSuffix]
  simp only at h
  rw [show ([10] : List UInt8) = (#[10] : Array UInt8).toList from rfl] at e1 e2
  rw [e1, e2] at h
  exact h
theorem suffix_yes (s : ByteArray) (u : List UInt8) (w : World) (hs : s.data.toList = u ++ [10]) (hl : s.size ≤ 1099511627776) :
    Calls Tryz.prog 87 #[.string s, .string ⟨#[10]⟩] w fun e w' => e = .returned (.tuple #[.string ⟨u.toArray⟩, .bool true]) ∧ w' = w := suffix_yes7 s u w hs (by omega)
theorem suffix_no (s : ByteArray) (w : World) (hs : ∀ u, s.data.toList ≠ u ++ [10]) (hl : s.size ≤ 1099511627776) :
    Calls Tryz.prog 87 #[.string s, .string ⟨#[10]⟩] w fun e w' => (∃ t, e = .returned (.tuple #[.string t, .bool false])) ∧ w' = w := by
  refine (Tryz.strings_CutSuffix s ⟨#[10]⟩ w (by omega)).mono ?_
  rintro e w' ⟨rfl, rfl⟩
  have e1 : Lib.hasSuffix s.data.toList [10] = false := by
    rw [Bool.eq_false_iff]
    intro h
    have : [10] <:+ s.data.toList := by simpa [Lib.hasSuffix] using h
    obtain ⟨u, hu⟩ := this
    exact hs u hu.symm
  rw [show ([10] : List UInt8) = (#[10] : Array UInt8).toList from rfl] at e1
  exact ⟨⟨_, by rw [e1]⟩, rfl⟩
end Go.Proofs.YtfconbblnmbnpahGreatDoor
namespace Go.Proofs.YtfconbblnmbnpahGreatDoor
open Go.RowKit Go.Shelf

/-- The four boxes that words.Read lays at its head, in a later world. -/
theorem four_boxes {w w2 : World} {t0 t1 t2 t3 : TypeId} {v0 v1 v2 v3 : Value}
    (b2 : Below ((((w.alloc (.cells #[v0] t0)).alloc (.cells #[v1] t1)).alloc (.cells #[v2] t2)).alloc (.cells #[v3] t3)).heap.size ((((w.alloc (.cells #[v0] t0)).alloc (.cells #[v1] t1)).alloc (.cells #[v2] t2)).alloc (.cells #[v3] t3)) w2) :
    Boxed w2 w.heap.size t0 v0 ∧ Boxed w2 (w.heap.size + 1) t1 v1 ∧ Boxed w2 (w.heap.size + 1 + 1) t2 v2 ∧ Boxed w2 (w.heap.size + 1 + 1 + 1) t3 v3 ∧ Below w.heap.size w w2 ∧ w.heap.size + 4 ≤ w2.heap.size := by
  have h0 := Boxed.new w t0 v0
  have h1 := Boxed.new (w.alloc (.cells #[v0] t0)) t1 v1
  have h2 := Boxed.new ((w.alloc (.cells #[v0] t0)).alloc (.cells #[v1] t1)) t2 v2
  have h3 := Boxed.new (((w.alloc (.cells #[v0] t0)).alloc (.cells #[v1] t1)).alloc (.cells #[v2] t2)) t3 v3
  simp only [World.size_alloc] at h1 h2 h3
  have hs := b2.size
  simp only [World.size_alloc] at hs
  refine ⟨(b2.block _ (by simp; omega)).trans (((h0.alloc _).alloc _).alloc _), (b2.block _ (by simp)).trans ((h1.alloc _).alloc _), (b2.block _ (by simp)).trans (h2.alloc _), (b2.block _ (by simp)).trans h3, ?_, by omega⟩
  exact (((((Below.refl _ w).alloc (Nat.le_refl _) _).alloc (by simp) _).alloc (by simp; omega) _).alloc (by simp; omega) _).trans (b2.mono (by simp; omega))
end Go.Proofs.YtfconbblnmbnpahGreatDoor
namespace Go.Proofs.YtfconbblnmbnpahGreatDoor
open Go.RowKit

set_option maxRecDepth 100000 in
set_option maxHeartbeats 2000000 in
theorem cut1_no0 (s : ByteArray) (w : World) (hno : (32 : UInt8) ∉ s.data.toList) :
    Calls Tryz.prog 178 #[.string s, .string ⟨#[32]⟩] w fun e w' => e = .returned (.tuple #[.string s, .string ⟨#[]⟩, .bool false]) ∧ Below w.heap.size w w' := by
  have hix := Tryz.stringslite_Index_one s 32 w
  have hi : Lib.indexByte s.data.toList 32 = -1 := by
    rcases idx_cases 32 s.data.toList with ⟨_, h⟩ | ⟨u, v, h, _, _⟩
    · exact h
    · exact absurd (by rw [h]; simp) hno
  rw [hi] at hix
  clear hi hno
  go_enter Tryz.func178, Tryz.ntmps178
  go_wp2_with (go_at_call 187; refine hix.mono ?_; rintro e w' ⟨rfl, hw'⟩; subst hw')
  go_ret3
  exact ⟨rfl, Below.refl _ _⟩
set_option maxRecDepth 100000 in
set_option maxHeartbeats 2000000 in
theorem cut1_yes0 (s : ByteArray) (u v : List UInt8) (w : World) (hs : s.data.toList = u ++ 32 :: v) (hu : (32 : UInt8) ∉ u) (hl : s.size ≤ 1099511627776) :
    Calls Tryz.prog 178 #[.string s, .string ⟨#[32]⟩] w fun e w' => e = .returned (.tuple #[.string ⟨u.toArray⟩, .string ⟨v.toArray⟩, .bool true]) ∧ Below w.heap.size w w' := by
  have hix := Tryz.stringslite_Index_one s 32 w
  have hi : Lib.indexByte s.data.toList 32 = u.length := by
    rcases idx_cases 32 s.data.toList with ⟨h, _⟩ | ⟨u', v', h, h', h''⟩
    · exact absurd (by rw [hs]; simp) h
    · have e1 := cutGo_at 32 u [] v hu
      have e2 := cutGo_at 32 u' [] v' h'
      rw [← hs] at e1
      rw [← h] at e2
      have := e1.symm.trans e2
      simp only [List.nil_append, List.cons.injEq] at this
      rw [h'', this.1]
  rw [hi] at hix
  have hsz : s.size = u.length + 1 + v.length := by
    have : s.data.toList.length = s.size := by simp
    rw [← this, hs]; simp; omega
  have hx1 : s.extract 0 u.length = ⟨u.toArray⟩ := by rw [ext_eq, hs]; simp
  have hx2 : s.extract (u.length + 1) s.size = ⟨v.toArray⟩ := by
    have : s.data.toList.length = s.size := by simp
    rw [ext_eq, ← this, List.take_length, hs, drop_mid]
  rw [← hx1, ← hx2]
  have hub : (u.length : Int) < s.size := by omega
  have hub2 : u.length + 1 ≤ s.size := by omega
  have hub3 : (u.length : Int) + 1 ≤ s.size := by omega
  clear hi hs hsz hx1 hx2 hu
  go_enter Tryz.func178, Tryz.ntmps178
  go_wp2_with (go_at_call 187; refine hix.mono ?_; rintro e w' ⟨rfl, hw'⟩; subst hw')
  go_region
  all_goals go_wp2
  all_goals go_ret3
  all_goals exact ⟨rfl, (Below.refl _ _).drew⟩
set_option maxRecDepth 100000 in
set_option maxHeartbeats 2000000 in
theorem cut1_of (s : ByteArray) (w : World) (a b : ByteArray) (c : Bool) (h : Calls Tryz.prog 178 #[.string s, .string ⟨#[32]⟩] w fun e w' => e = .returned (.tuple #[.string a, .string b, .bool c]) ∧ Below w.heap.size w w') :
    Calls Tryz.prog 151 #[.string s, .string ⟨#[32]⟩] w fun e w' => e = .returned (.tuple #[.string a, .string b, .bool c]) ∧ Below w.heap.size w w' := by
  go_enter Tryz.func151, Tryz.ntmps151
  go_wp2_with (go_at_call 178; refine h.mono ?_; rintro e w1 ⟨rfl, b1⟩; clear h)
  go_ret3
  exact ⟨rfl, b1⟩
theorem cut1_no (s : ByteArray) (w : World) (hno : (32 : UInt8) ∉ s.data.toList) :
    Calls Tryz.prog 151 #[.string s, .string ⟨#[32]⟩] w fun e w' => e = .returned (.tuple #[.string s, .string ⟨#[]⟩, .bool false]) ∧ Below w.heap.size w w' := cut1_of _ _ _ _ _ (cut1_no0 s w hno)
theorem cut1_yes (s : ByteArray) (u v : List UInt8) (w : World) (hs : s.data.toList = u ++ 32 :: v) (hu : (32 : UInt8) ∉ u) (hl : s.size ≤ 1099511627776) :
    Calls Tryz.prog 151 #[.string s, .string ⟨#[32]⟩] w fun e w' => e = .returned (.tuple #[.string ⟨u.toArray⟩, .string ⟨v.toArray⟩, .bool true]) ∧ Below w.heap.size w w' := cut1_of _ _ _ _ _ (cut1_yes0 s u v w hs hu hl)
end Go.Proofs.YtfconbblnmbnpahGreatDoor
namespace Go.Proofs.YtfconbblnmbnpahGreatDoor
open Go.RowKit

theorem stCells_next {l : List St} {n : Nat} {s : St} (h : l[n]? = some s) : stCells (l.take (n + 1)) = stCells (l.take n) ++ [.int .i64 s.p, .int .i64 (s.c 0), .int .i64 (s.c 1), .int .i64 (s.c 2), .int .i64 (s.c 3), .int .i64 (s.c 4), .int .i64 (s.c 5), .bool s.f] := by
  obtain ⟨hk, rfl⟩ := List.getElem?_eq_some_iff.1 h
  rw [List.take_succ_eq_append_getElem hk, stCells_snoc]
set_option maxRecDepth 100000 in
set_option maxHeartbeats 8000000 in
theorem all_st {G : World → Prop} (C : KerC G) {w0 W : World} {p : PD} {vc vs vw : Value} {k : KD} {kb : Nat} {F : List Nat} (hK : C.K w0 W p vc vs vw k kb F) (hk : KOk p k) (hp : plchk p = 0) :
    Calls Tryz.prog 63 #[.int .i64 (k.rooms.length : Nat), .func (.func 49) #[.pointer (some ⟨kb, 0, none⟩)] #[]] W fun e w' => ∃ v, e = .returned (.tuple #[v, .bool true]) ∧ w'.ownsRow W.heap.size 117 8 v k.rooms.length (stCells k.rooms) ∧ Below W.heap.size W w' := by
  obtain ⟨jj, hj, hy0, hy1, hy2⟩ := info_parts infoSt
  have hn5 : k.rooms.length ≤ 5 := by rw [hk.rl]; exact (plchk_zero hp).1
  have HT : Hid (∀ (i : Nat) s wr, k.rooms[i]? = some s → Below W.heap.size W wr → Calls Tryz.prog 49 #[.pointer (some ⟨kb, 0, none⟩), .int .i64 i] wr fun e w2 => e = .returned (.tuple #[.agg #[.int .i64 s.p, .int .i64 (s.c 0), .int .i64 (s.c 1), .int .i64 (s.c 2), .int .i64 (s.c 3), .int .i64 (s.c 4), .int .i64 (s.c 5), .bool s.f], .nilIface]) ∧ Below wr.heap.size wr w2) := fun i s wr hs hb => by
    have h := C.state (i : Int) (C.frame hK (KTouch.of (M := []) hb) (fun m hm => (by cases hm))) hk hp
    have hi := (List.getElem?_eq_some_iff.1 hs).1
    have hno : noRoom k i = false := by
      unfold noRoom
      rw [Bool.or_eq_false_iff]
      exact ⟨decide_eq_false (by omega), decide_eq_false (by omega)⟩
    have hrk : roomK k i = s := by
      unfold roomK
      rw [if_neg (by rw [hno]; decide), Int.toNat_natCast, List.getD_eq_getElem?_getD, hs]
      rfl
    rw [hno, hrk] at h
    exact h
  have HN : Hid (∀ wr, Below W.heap.size W wr → Calls Tryz.prog 49 #[.pointer (some ⟨kb, 0, none⟩), .int .i64 (k.rooms.length : Nat)] wr fun e w2 => ∃ x0 x1 x2 x3 x4 x5 x6 x7, e = .returned (.tuple #[.agg #[.int .i64 x0, .int .i64 x1, .int .i64 x2, .int .i64 x3, .int .i64 x4, .int .i64 x5, .int .i64 x6, .bool x7], .iface 91 (.int .i64 1)]) ∧ Below wr.heap.size wr w2) := fun wr hb => by
    have h := C.state (k.rooms.length : Int) (C.frame hK (KTouch.of (M := []) hb) (fun m hm => (by cases hm))) hk hp
    have hno : noRoom k k.rooms.length = true := by
      unfold noRoom
      rw [Bool.or_eq_true]
      exact Or.inr (decide_eq_true (Int.le_refl _))
    rw [hno] at h
    refine h.mono ?_
    rintro e w2 ⟨rfl, b2⟩
    exact ⟨_, _, _, _, _, _, _, _, rfl, b2⟩
  have HA : Hid (stCells (k.rooms.take k.rooms.length) = stCells k.rooms) := by show _ = _; rw [List.take_length]
  clear hK hk hp
  go_enter Tryz.func63, Tryz.ntmps63
  go_wp2
  go_loopw [6, 13] (fun v i wr => ∃ n : Nat, n ≤ k.rooms.length ∧ i = .int .i64 n ∧ wr.ownsRow W.heap.size 117 8 v n (stCells (k.rooms.take n)) ∧ Below W.heap.size W wr) (fun _ i _ => k.rooms.length - (intOf i).toNat)
  case atStart => exact ⟨0, Nat.zero_le _, rfl, World.ownsRow_nil _ _ _ _, Below.refl _ _⟩
  case round =>
  obtain ⟨n, hn, rfl, own, hb⟩ := hrel
  obtain ⟨va, vc, rfl⟩ := sl_form own
  by_cases hnl : n < k.rooms.length
  · have hni : (n : Int) < (k.rooms.length : Int) := by omega
    obtain ⟨s, hs⟩ : ∃ s, k.rooms[n]? = some s := ⟨_, List.getElem?_eq_getElem hnl⟩
    have HS : Hid (stCells (k.rooms.take (n + 1)) = stCells (k.rooms.take n) ++ [.int .i64 s.p, .int .i64 (s.c 0), .int .i64 (s.c 1), .int .i64 (s.c 2), .int .i64 (s.c 3), .int .i64 (s.c 4), .int .i64 (s.c 5), .bool s.f]) := stCells_next hs
    have hq := HT.out n s wr hs hb
    clear hs
    go_wp2_with (first
      | (go_at_call 49; refine hq.mono ?_; rintro e w2 ⟨rfl, b2⟩; have own2 := own_block own (fun k hk => b2.block k (own.lt k hk).2); have hs2 := b2.size; have hsb := hb.size)
      | (at_builtin; refine wpList_append_at _ rfl _ _ 80 rfl W.heap.size 117 jj _ 8 64 Tryz.underlying80 hj hy0 hy1 hy2 rfl (by decide) _ _ _ rfl ((own2.alloc _).alloc _) ⟨w2.heap.size + 1, 0, none⟩ 1 1 [.int .i64 s.p, .int .i64 (s.c 0), .int .i64 (s.c 1), .int .i64 (s.c 2), .int .i64 (s.c 3), .int .i64 (s.c 4), .int .i64 (s.c 5), .bool s.f] rfl rfl (st_new (by simp) s _) (st_one s) (by unfold maxLen; omega) (by omega) (by simp; omega) ?_; intro v1 w8 own8 hg8 hnw8))
    have hb3 : Below W.heap.size W w2 := hb.trans (b2.mono hb.size)
    have hb8 : Below W.heap.size W w8 := ((hb3.alloc (by omega) _).alloc (by simp; omega) _).grown hg8 (by simp; omega) (fun k hk => (own2.lt k hk).1)
    obtain ⟨g8, cap8, rfl⟩ := own_succ own8
    go_wp2
    go_roundw
    case rel => exact ⟨n + 1, by omega, by go_num, by rw [HS.out]; exact own8, hb8⟩
    case measure => simp [intOf]; omega
  obtain rfl : n = k.rooms.length := by omega
  have hni : decide ((k.rooms.length : Int) < (k.rooms.length : Int)) = false := decide_eq_false (by omega)
  have hnn : decide (k.rooms.length < k.rooms.length) = false := decide_eq_false (by omega)
  rw [HA.out] at own
  clear hnl hn
  go_wp2_with (first
    | (go_at_call 49; refine (HN.out _ hb).mono ?_; rintro e w2 ⟨x0, x1, x2, x3, x4, x5, x6, x7, rfl, b2⟩)
    | go_region)
  all_goals
    go_wp2_with fail
    go_ret2
    refine ⟨_, rfl, ?_, ?_⟩
    · have own2 := own_block own (fun k hk => b2.block k (own.lt k hk).2)
      first | exact own2.alloc _ | exact (own2.alloc _).drew
    · have hb3 : Below W.heap.size W w2 := hb.trans (b2.mono hb.size)
      have := hb3.size
      repeat' first | exact hb3 | refine Below.drew ?_ | refine Below.alloc ?_ (by first | omega | (simp; omega)) _
end Go.Proofs.YtfconbblnmbnpahGreatDoor
