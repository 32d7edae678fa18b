/-
  RefNumber, RefNumbers, CutText: joined into one text.
-/
import Derived.Test.YtamnfadngbbaeacGreatDoorMathA
import Derived.Test.YtamnfadngbbaeacGreatDoorRefPut
import Derived.Test.YtamnfadngbbaeacGreatDoorCut
namespace Go.Proofs.YtamnfadngbbaeacGreatDoor
open Go.RowKit

set_option maxRecDepth 100000 in
set_option maxHeartbeats 2000000 in
theorem rnum_empty (w : World) : Calls Tryz.prog 51 #[.string ⟨#[]⟩, .int .i64 4] w fun e w' => e = .returned (.tuple #[.int .i64 0, .bool false]) ∧ Below w.heap.size w w' := by
  go_enter Tryz.func51, Tryz.ntmps51
  go_wp2
  go_ret2
  exact ⟨rfl, Below.refl _ _⟩
theorem str_ne {s : ByteArray} (h : 0 < s.size) : (s.toList == ([] : List UInt8)) = false := by
  rw [Lib.toList_data s]
  cases hd : s.data.toList with
  | nil =>
    have : s.data.toList.length = s.size := by simp
    rw [hd] at this
    simp at this
    omega
  | cons x xs => rfl
set_option maxRecDepth 100000 in
set_option maxHeartbeats 2000000 in
theorem rnum_long (s : ByteArray) (w : World) (h : 4 < s.size) : Calls Tryz.prog 51 #[.string s, .int .i64 4] w fun e w' => e = .returned (.tuple #[.int .i64 0, .bool false]) ∧ Below w.heap.size w w' := by
  have hne := str_ne (s := s) (by omega)
  have h' : (4 : Int) < (s.size : Int) := by omega
  go_enter Tryz.func51, Tryz.ntmps51
  go_wp2
  go_ret2
  exact ⟨rfl, Below.refl _ _⟩
set_option maxRecDepth 100000 in
set_option maxHeartbeats 2000000 in
theorem rnum_zero (s : ByteArray) (w : World) (h0 : 1 < s.size) (h4 : s.size ≤ 4) (hz : ((s[0].toNat : Int) == 48) = true) : Calls Tryz.prog 51 #[.string s, .int .i64 4] w fun e w' => e = .returned (.tuple #[.int .i64 0, .bool false]) ∧ Below w.heap.size w w' := by
  have hne := str_ne (s := s) (by omega)
  have hb : decide ((4 : Int) < (s.size : Int)) = false := by simp; omega
  have hb1 : decide ((1 : Int) < (s.size : Int)) = true := by simp; omega
  go_enter Tryz.func51, Tryz.ntmps51
  go_wp2
  go_ret2
  exact ⟨rfl, Below.refl _ _⟩

set_option maxRecDepth 1000000 in
set_option maxHeartbeats 4000000 in
theorem rnum_main (s : ByteArray) (w : World) (h0 : 0 < s.size) (h4 : s.size ≤ 4) (hz : ((s[0].toNat : Int) == 48) = false ∨ (s.size = 1 ∧ ((s[0].toNat : Int) == 48) = true)) : Calls Tryz.prog 51 #[.string s, .int .i64 4] w fun e w' => e = .returned (numV s.data.toList) ∧ Below w.heap.size w w' := by
  have hne := str_ne (s := s) (by omega)
  have hb : decide ((4 : Int) < (s.size : Int)) = false := by simp; omega
  have hsl : s.data.toList.length = s.size := by simp
  have HH : Hid (s.data.toList.head? = some 48 → s.data.toList.length = 1) := fun e => by
    rcases hz with hz | hz
    · exfalso
      have h1 : s.data.toList[0]? = some 48 := by rw [← List.head?_eq_getElem?]; exact e
      rw [List.getElem?_eq_getElem (by omega)] at h1
      have h2 : s[0] = 48 := Option.some.inj h1
      rw [h2] at hz
      simp at hz
    · omega
  rcases hz with hz | ⟨hz1, hz⟩
  · skip
    go_enter Tryz.func51, Tryz.ntmps51
    go_wp2
    clear hz
    go_loopw [6, 7] (fun n i wr => ∃ k : Nat, k ≤ s.size ∧ i = .int .i64 k ∧ n = .int .i64 (valD (s.data.toList.take k)) ∧ (∀ d ∈ s.data.toList.take k, isD d) ∧ wr = w) (fun _ i _ => s.size - (intOf i).toNat)
    case atStart => exact ⟨0, Nat.zero_le _, rfl, rfl, by simp, rfl⟩
    case round =>
      obtain ⟨k, hk, rfl, rfl, hall, rfl⟩ := hrel
      have hvl := valD_le (s.data.toList.take k) hall (by rw [List.length_take]; omega)
      have HA : Hid (∀ d ∈ s.data.toList.take k, isD d) := hall
      clear hall
      obtain ⟨V, hV⟩ : ∃ V, V = valD (s.data.toList.take k) := ⟨_, rfl⟩
      rw [← hV] at hvl ⊢
      have HV : Hid (V = valD (s.data.toList.take k)) := hV
      clear hV
      by_cases hkl : k < s.size
      · have hkl' : k < s.data.toList.length := by omega
        have hgd : s[k] = s.data.toList[k] := rfl
        have HT : Hid (s.data.toList.take (k + 1) = s.data.toList.take k ++ [s[k]'hkl]) := List.take_succ_eq_append_getElem hkl'
        have HM : Hid (s[k]'hkl ∈ s.data.toList) := List.getElem_mem hkl'
        clear hkl' hgd hsl
        by_cases hd1 : (s[k].toNat : Int) < 48
        · have HN : Hid (numB s.data.toList = none) := num_nodigit HM.out (Or.inl (by omega))
          go_wp2
          go_ret2
          exact ⟨by unfold numV; rw [HN.out]; rfl, Below.refl _ _⟩
        · by_cases hd2 : (57 : Int) < (s[k].toNat : Int)
          · have HN : Hid (numB s.data.toList = none) := num_nodigit HM.out (Or.inr (by omega))
            go_wp2
            go_ret2
            exact ⟨by unfold numV; rw [HN.out]; rfl, Below.refl _ _⟩
          · have HD : Hid (isD s[k]) := ⟨by omega, by omega⟩
            go_wp2
            go_roundw
            case rel =>
              refine ⟨k + 1, by omega, by go_num, ?_, ?_, by first | rfl | trivial⟩
              · rw [HT.out, valD_snoc, ← HV.out]
              · intro d hd
                rw [HT.out, List.mem_append] at hd
                rcases hd with hd | hd
                · exact HA.out d hd
                · rw [List.mem_singleton] at hd
                  rw [hd]
                  exact HD.out
            case measure => simp [intOf]; omega
      · have hke : k = s.size := by omega
        subst hke
        have HN : Hid (numB s.data.toList = some V) := by
          have e : s.data.toList.take s.size = s.data.toList := List.take_of_length_le (by omega)
          have h1 := HA.out
          have h2 := HV.out
          rw [e] at h1 h2
          show _ = _
          rw [h2]
          exact num_good h1 (fun e0 => by rw [e0] at hsl; simp at hsl; omega) (by omega) HH.out
        clear hsl
        go_wp2
        go_ret2
        exact ⟨by unfold numV; rw [HN.out]; rfl, Below.refl _ _⟩
  · have hb1 : decide ((1 : Int) < (s.size : Int)) = false := by simp; omega
    clear hz1
    go_enter Tryz.func51, Tryz.ntmps51
    go_wp2
    clear hz hb1
    go_loopw [6, 7] (fun n i wr => ∃ k : Nat, k ≤ s.size ∧ i = .int .i64 k ∧ n = .int .i64 (valD (s.data.toList.take k)) ∧ (∀ d ∈ s.data.toList.take k, isD d) ∧ wr = w) (fun _ i _ => s.size - (intOf i).toNat)
    case atStart => exact ⟨0, Nat.zero_le _, rfl, rfl, by simp, rfl⟩
    case round =>
      obtain ⟨k, hk, rfl, rfl, hall, rfl⟩ := hrel
      have hvl := valD_le (s.data.toList.take k) hall (by rw [List.length_take]; omega)
      have HA : Hid (∀ d ∈ s.data.toList.take k, isD d) := hall
      clear hall
      obtain ⟨V, hV⟩ : ∃ V, V = valD (s.data.toList.take k) := ⟨_, rfl⟩
      rw [← hV] at hvl ⊢
      have HV : Hid (V = valD (s.data.toList.take k)) := hV
      clear hV
      by_cases hkl : k < s.size
      · have hkl' : k < s.data.toList.length := by omega
        have hgd : s[k] = s.data.toList[k] := rfl
        have HT : Hid (s.data.toList.take (k + 1) = s.data.toList.take k ++ [s[k]'hkl]) := List.take_succ_eq_append_getElem hkl'
        have HM : Hid (s[k]'hkl ∈ s.data.toList) := List.getElem_mem hkl'
        clear hkl' hgd hsl
        by_cases hd1 : (s[k].toNat : Int) < 48
        · have HN : Hid (numB s.data.toList = none) := num_nodigit HM.out (Or.inl (by omega))
          go_wp2
          go_ret2
          exact ⟨by unfold numV; rw [HN.out]; rfl, Below.refl _ _⟩
        · by_cases hd2 : (57 : Int) < (s[k].toNat : Int)
          · have HN : Hid (numB s.data.toList = none) := num_nodigit HM.out (Or.inr (by omega))
            go_wp2
            go_ret2
            exact ⟨by unfold numV; rw [HN.out]; rfl, Below.refl _ _⟩
          · have HD : Hid (isD s[k]) := ⟨by omega, by omega⟩
            go_wp2
            go_roundw
            case rel =>
              refine ⟨k + 1, by omega, by go_num, ?_, ?_, by first | rfl | trivial⟩
              · rw [HT.out, valD_snoc, ← HV.out]
              · intro d hd
                rw [HT.out, List.mem_append] at hd
                rcases hd with hd | hd
                · exact HA.out d hd
                · rw [List.mem_singleton] at hd
                  rw [hd]
                  exact HD.out
            case measure => simp [intOf]; omega
      · have hke : k = s.size := by omega
        subst hke
        have HN : Hid (numB s.data.toList = some V) := by
          have e : s.data.toList.take s.size = s.data.toList := List.take_of_length_le (by omega)
          have h1 := HA.out
          have h2 := HV.out
          rw [e] at h1 h2
          show _ = _
          rw [h2]
          exact num_good h1 (fun e0 => by rw [e0] at hsl; simp at hsl; omega) (by omega) HH.out
        clear hsl
        go_wp2
        go_ret2
        exact ⟨by unfold numV; rw [HN.out]; rfl, Below.refl _ _⟩
theorem refnum_any (s : ByteArray) (w : World) : Calls Tryz.prog 51 #[.string s, .int .i64 4] w fun e w' => e = .returned (numV s.data.toList) ∧ Below w.heap.size w w' := by
  have hsl : s.data.toList.length = s.size := by simp
  by_cases h0 : s.size = 0
  · have hd : s.data.toList = [] := List.eq_nil_of_length_eq_zero (by omega)
    have hs : s = ⟨#[]⟩ := by apply ByteArray.ext; apply Array.toList_inj.1; exact hd
    rw [hd, hs]
    unfold numV
    rw [num_empty]
    exact rnum_empty w
  · by_cases h4 : 4 < s.size
    · unfold numV
      rw [numB_long (by omega)]
      exact rnum_long s w h4
    · by_cases hz : ((s[0]'(by omega)).toNat : Int) = 48
      · by_cases h1 : s.size = 1
        · exact rnum_main s w (by omega) (by omega) (Or.inr ⟨h1, by simpa using hz⟩)
        · have hh : s.data.toList.head? = some 48 := by
            rw [List.head?_eq_getElem?, List.getElem?_eq_getElem (by omega)]
            refine congrArg some ?_
            exact UInt8.toNat_inj.1 (by have : s.data.toList[0] = s[0]'(by omega) := rfl; rw [this]; simp; omega)
          unfold numV
          rw [num_zero hh (by omega)]
          exact rnum_zero s w (by omega) (by omega) (by simpa using hz)
      · exact rnum_main s w (by omega) (by omega) (Or.inl (by simpa using hz))
end Go.Proofs.YtamnfadngbbaeacGreatDoor
namespace Go.Proofs.YtamnfadngbbaeacGreatDoor
open Go.RowKit

/-- A slice of texts that can be read in the world. -/
def Strs (w : World) (v : Value) (ls : List (List UInt8)) : Prop := ∃ g cap, v = .slice (some ⟨g, 0, none⟩) ls.length cap ∧ g < w.heap.size ∧ ∀ (i : Nat) l, ls[i]? = some l → w.cell? ⟨g, i, none⟩ = some (.string ⟨l.toArray⟩)
theorem Strs.all {w w' : World} {v : Value} {ls : List (List UInt8)} (h : Strs w v ls) (hb : Below w.heap.size w w') : Strs w' v ls := by
  obtain ⟨g, cap, rfl, hg, hc⟩ := h
  exact ⟨g, cap, rfl, Nat.lt_of_lt_of_le hg hb.size, fun i l hl => (hb.cell (p := ⟨g, i, none⟩) hg).trans (hc i l hl)⟩
theorem strs_of_own {w : World} {base : Nat} {v : Value} {ls : List (List UInt8)} (h : w.ownsRow base 9 1 v ls.length (strs ls)) (h1 : 1 ≤ ls.length) : Strs w v ls := by
  have hl := h.lt
  have hcs := @World.ownsRow.cells _ _ _ _ _ _ _ h
  rcases h.2 with ⟨rfl, h0⟩ | ⟨g, cap, cur, rfl, _⟩
  · omega
  · refine ⟨g, cap, rfl, (hl g rfl).2, fun i l hz => ?_⟩
    have := hcs rfl i (.string ⟨l.toArray⟩) (by simp [strs, hz])
    have e : (⟨g, 0, none⟩ : Addr).add i = ⟨g, i, none⟩ := by
      unfold Addr.add
      split
      · rename_i h; subst h; rfl
      · simp
    rwa [e] at this
theorem numsOf_split {ls : List (List UInt8)} {k : Nat} {p : List UInt8} (h : ls[k]? = some p) : ls = ls.take k ++ p :: ls.drop (k + 1) := by
  have hk := (List.getElem?_eq_some_iff.1 h).1
  have e := (List.getElem?_eq_some_iff.1 h).2
  have := List.take_append_drop k ls
  rw [List.drop_eq_getElem_cons hk, e] at this
  exact this.symm
theorem take_at {α : Type} {ls : List α} {k : Nat} {p : α} (h : ls[k]? = some p) : ls.take (k + 1) = ls.take k ++ [p] := by
  have hk := (List.getElem?_eq_some_iff.1 h).1
  have e := (List.getElem?_eq_some_iff.1 h).2
  rw [List.take_succ_eq_append_getElem hk, e]

set_option maxRecDepth 1000000 in
set_option maxHeartbeats 4000000 in
theorem numbers_own (v : Value) (p0 : List UInt8) (ls : List (List UInt8)) (w : World) (hv : Strs w v (p0 :: ls)) (hlen : ls.length ≤ 1099511627776) :
    Calls Tryz.prog 29 #[v, .int .i64 4] w fun e w' => ∃ v', e = .returned (.tuple #[v', .bool (numsOf ls).isSome]) ∧ w'.ownsRow w.heap.size 3 1 v' ((numsOf ls).getD []).length (((numsOf ls).getD []).map (Value.int .i64)) ∧ Below w.heap.size w w' := by
  obtain ⟨g, cap, rfl, hg, hc⟩ := hv
  rw [List.length_cons]
  obtain ⟨ii, hi, hz0, hz1, hz2⟩ := info_parts infoIntC
  go_enter Tryz.func29, Tryz.ntmps29
  go_wp2
  go_loopw [6, 7] (fun o i wr => ∃ (k : Nat) (pre : List Int), k ≤ ls.length ∧ pre.length ≤ k ∧ i = .int .i64 ((k : Int) + 1) ∧ wr.ownsRow w.heap.size 3 1 o pre.length (pre.map (Value.int .i64)) ∧ Below w.heap.size w wr ∧ numsOf (ls.take k) = some pre) (fun _ i _ => ls.length + 1 - (intOf i).toNat)
  case atStart => exact ⟨0, [], Nat.zero_le _, by simp, rfl, World.ownsRow_nil _ _ _ _, Below.refl _ _, by simp [numsOf]⟩
  case round =>
    obtain ⟨k, pre, hk, hpl, rfl, hown, hb, hinv⟩ := hrel
    have HI : Hid (numsOf (ls.take k) = some pre) := hinv
    clear hinv
    have hsz := hb.size
    by_cases hkl : k < ls.length
    · obtain ⟨p, hp⟩ : ∃ p, ls[k]? = some p := ⟨ls[k], List.getElem?_eq_getElem hkl⟩
      have HP : Hid (ls[k]? = some p) := hp
      have c0 : wr.cell? ⟨g, k + 1, none⟩ = some (.string ⟨p.toArray⟩) := (hb.cell (p := ⟨g, k + 1, none⟩) hg).trans (hc (k + 1) p (by simpa using hp))
      have hnum := refnum_any ⟨p.toArray⟩ wr
      clear hp hc
      have hki : (k : Int) + 1 < (ls.length : Int) + 1 := by omega
      cases hn : numB p with
      | none =>
        have HN : Hid (numsOf ls = none) := by
          show _ = _
          rw [numsOf_split HP.out]
          exact numsOf_bad hn
        unfold numV at hnum
        simp only [hn] at hnum
        rw [show (none : Option Int).getD 0 = 0 from rfl, show (none : Option Int).isSome = false from rfl] at hnum
        clear hn HI hown
        go_wp2_with (go_at_call 51; refine hnum.mono ?_; rintro e w1 ⟨rfl, b1⟩; clear hnum)
        go_ret2
        exact ⟨_, by rw [HN.out]; rfl, by rw [HN.out]; exact World.ownsRow_nil _ _ _ _, hb.trans (b1.mono hsz)⟩
      | some n =>
        have HN : Hid (numsOf (ls.take (k + 1)) = some (pre ++ [n])) := by
          show _ = _
          rw [take_at HP.out]
          exact numsOf_snoc _ _ _ _ HI.out hn
        unfold numV at hnum
        simp only [hn] at hnum
        rw [show (some n : Option Int).getD 0 = n from rfl, show (some n : Option Int).isSome = true from rfl] at hnum
        clear hn HI
        go_wp2_with (first | (go_at_call 51; refine hnum.mono ?_; rintro e w1 ⟨rfl, b1⟩; have hown1 := own_all hown b1; have hb1 := hb.trans (b1.mono hsz); have hsz1 := hb1.size; clear hnum hown) | (at_builtin; refine wpList_append_own _ rfl _ _ 50 rfl w.heap.size 3 ii (.int .i64 0) 1 8 Tryz.underlying50 hi hz0 hz1 hz2 rfl (by decide) _ _ _ rfl (hown1.alloc _) ⟨w1.heap.size, 0, none⟩ 1 1 [.int .i64 n] rfl rfl ?c1A ?c2A ?c3A ?c4A ?c5A ?_))
        case c1A =>
          intro j u hj
          match j, hj with
          | 0, hj => simp at hj; subst hj; simp [Addr.add]
        case c2A => intro u hu; simp at hu; subst hu; rfl
        case c3A => unfold maxLen; omega
        case c4A => omega
        case c5A => simp; omega
        intro v' w2 hown' hgrow _
        have hb2 : Below w.heap.size w w2 := (hb1.alloc hsz1 _).grown hgrow (by simp; omega) (fun j hj => (hown1.lt j hj).1)
        have R : w2.ownsRow w.heap.size 3 1 v' (pre ++ [n]).length ((pre ++ [n]).map (Value.int .i64)) := by simpa using hown'
        clear hown' hgrow hown1
        go_wp2
        go_roundw
        case rel => exact ⟨k + 1, pre ++ [n], by omega, by simp; omega, by go_num, R, hb2, HN.out⟩
        case measure => simp [intOf]; omega
    · have hke : k = ls.length := by omega
      subst hke
      have HN : Hid (numsOf ls = some pre) := by have := HI.out; rwa [List.take_length] at this
      have HV : Hid (wr.ownsRow w.heap.size 3 1 u6 pre.length (pre.map (Value.int .i64))) := hown
      obtain ⟨g', n', cap', rfl⟩ := slice_form hown
      clear hown
      go_wp2
      go_ret2
      exact ⟨_, by rw [HN.out]; rfl, by rw [HN.out]; exact HV.out, hb⟩
theorem numbers_any (v : Value) (p0 : List UInt8) (ls : List (List UInt8)) (w : World) (hv : Strs w v (p0 :: ls)) (hlen : ls.length ≤ 1099511627776) :
    Calls Tryz.prog 29 #[v, .int .i64 4] w fun e w' => ∃ v', e = .returned (.tuple #[v', .bool (numsOf ls).isSome]) ∧ Ints w' v' ((numsOf ls).getD []) ∧ Below w.heap.size w w' :=
  (numbers_own v p0 ls w hv hlen).mono fun _ _ ⟨v', he, ho, hb⟩ => ⟨v', he, ints_of_own ho, hb⟩
theorem rnums_own (v : Value) (p : List UInt8) (ps : List (List UInt8)) (x : Int) (ns : List Int) (w : World) (hv : Strs w v (p :: ps)) (hlen : ps.length ≤ 1099511627776) (hn : numsOf ps = some (x :: ns)) :
    Calls Tryz.prog 29 #[v, .int .i64 4] w fun e w' => ∃ nb cap, e = .returned (.tuple #[.slice (some ⟨nb, 0, none⟩) (ns.length + 1) cap, .bool true]) ∧ w.heap.size ≤ nb ∧ nb < w'.heap.size ∧ (∀ (i : Nat) z, (x :: ns)[i]? = some z → w'.cell? ⟨nb, i, none⟩ = some (.int .i64 z)) ∧ Below w.heap.size w w' := by
  refine (numbers_own v p ps w hv hlen).mono ?_
  rintro e w' ⟨v', rfl, ho, hb⟩
  rw [hn] at ho ⊢
  simp only [Option.getD_some, List.length_cons] at ho
  rcases ho.2 with ⟨_, h0⟩ | ⟨g, cap, cur, rfl, _⟩
  · omega
  · refine ⟨g, cap, rfl, (ho.lt g rfl).1, (ho.lt g rfl).2, fun i z hz => ?_, hb⟩
    have := ho.cells (g := g) rfl i (.int .i64 z) (by rw [List.getElem?_map, hz]; rfl)
    rwa [Addr.add_lit, Nat.zero_add] at this
end Go.Proofs.YtamnfadngbbaeacGreatDoor
namespace Go.Proofs.YtamnfadngbbaeacGreatDoor
open Go.RowKit

theorem rcut_text (t : ByteArray) (ps : List (List UInt8)) (q : List UInt8) (w : World) (hs : t.size ≤ 1099511627776) (hc : cutB 10 t.data.toList = ps ++ [q]) :
    Calls Tryz.prog 28 #[.string t, .int .u8 10] w fun e w' => (∃ g cap, e = .returned (.slice (some ⟨g, 0, none⟩) (ps.length + 1) cap) ∧ g < w'.heap.size ∧ w'.cell? ⟨g, ps.length, none⟩ = some (.string ⟨q.toArray⟩) ∧ ∀ (i : Nat) p, ps[i]? = some p → w'.cell? ⟨g, i, none⟩ = some (.string ⟨p.toArray⟩)) ∧ Below w.heap.size w w' := by
  refine (cut_any t 10 10 rfl w hs).mono ?_
  rintro e w' ⟨v, rfl, ho, hb⟩
  rw [hc] at ho
  have hst := strs_of_own ho (by simp)
  obtain ⟨g, cap, rfl, hg, hcl⟩ := hst
  refine ⟨⟨g, cap, by simp, hg, hcl ps.length q (by simp), fun i p hp => hcl i p ?_⟩, hb⟩
  rw [List.getElem?_append_left (List.getElem?_eq_some_iff.1 hp).1]
  exact hp
theorem piece_len {c : UInt8} : ∀ (l cur : List UInt8) (p : List UInt8), p ∈ cutGo c cur l → p.length ≤ cur.length + l.length
  | [], cur, p, h => by simp [cutGo] at h; subst h; simp
  | x :: xs, cur, p, h => by
    by_cases hx : x = c
    · rw [cutGo_hit hx] at h
      rcases List.mem_cons.1 h with rfl | h
      · simp
      · have := piece_len xs [] p h
        simp at this ⊢
        omega
    · rw [cutGo_miss hx] at h
      have := piece_len xs _ p h
      simp at this ⊢
      omega
end Go.Proofs.YtamnfadngbbaeacGreatDoor
