/-
  RefNum7, RefNums7, FHold, SnMul, SnRep: joined into one text.
-/
import Derived.Test.YtfconbblnmbnpahGreatDoorJa4
import Derived.Test.YtfconbblnmbnpahGreatDoorJa2
import Derived.Test.YtfconbblnmbnpahGreatDoorJa3
import Derived.Test.YtfconbblnmbnpahGreatDoorJa1
import Derived.RangeFuncNested
import Derived.Laws.IdiomCopy
import Derived.Laws.MakeOwn
import Derived.Deep.CutRange
import Derived.BigQuiet
namespace Go.Proofs.YtfconbblnmbnpahGreatDoor
open Go.RowKit

def numV7 (l : List UInt8) : Value := .tuple #[.int .i64 ((numB7 l).getD 0), .bool (numB7 l).isSome]

set_option maxRecDepth 100000 in
set_option maxHeartbeats 2000000 in
theorem rnum7_empty (w : World) : Calls Tryz.prog 46 #[.string ⟨#[]⟩, .int .i64 7] w fun e w' => e = .returned (.tuple #[.int .i64 0, .bool false]) ∧ Below w.heap.size w w' := by
  go_enter Tryz.func46, Tryz.ntmps46
  go_wp2
  go_ret2
  exact ⟨rfl, Below.refl _ _⟩
theorem str_ne7 {s : ByteArray} (h : 0 < s.size) : (s.toList == ([] : List UInt8)) = false := by
  rw [Lib.toList_data s]
  cases hd : s.data.toList with
  | nil =>
    have : s.data.toList.length = s.size := by simp
    rw [hd] at this
    simp at this
    omega
  | cons x xs => rfl
set_option maxRecDepth 100000 in
set_option maxHeartbeats 2000000 in
theorem rnum7_long (s : ByteArray) (w : World) (h : 7 < s.size) : Calls Tryz.prog 46 #[.string s, .int .i64 7] w fun e w' => e = .returned (.tuple #[.int .i64 0, .bool false]) ∧ Below w.heap.size w w' := by
  have hne := str_ne7 (s := s) (by omega)
  have h' : (7 : Int) < (s.size : Int) := by omega
  go_enter Tryz.func46, Tryz.ntmps46
  go_wp2
  go_ret2
  exact ⟨rfl, Below.refl _ _⟩
set_option maxRecDepth 100000 in
set_option maxHeartbeats 2000000 in
theorem rnum7_zero (s : ByteArray) (w : World) (h0 : 1 < s.size) (h4 : s.size ≤ 7) (hz : ((s[0].toNat : Int) == 48) = true) : Calls Tryz.prog 46 #[.string s, .int .i64 7] w fun e w' => e = .returned (.tuple #[.int .i64 0, .bool false]) ∧ Below w.heap.size w w' := by
  have hne := str_ne7 (s := s) (by omega)
  have hb : decide ((7 : Int) < (s.size : Int)) = false := by simp; omega
  have hb1 : decide ((1 : Int) < (s.size : Int)) = true := by simp; omega
  go_enter Tryz.func46, Tryz.ntmps46
  go_wp2
  go_ret2
  exact ⟨rfl, Below.refl _ _⟩

set_option maxRecDepth 1000000 in
set_option maxHeartbeats 4000000 in
theorem rnum7_main (s : ByteArray) (w : World) (h0 : 0 < s.size) (h4 : s.size ≤ 7) (hz : ((s[0].toNat : Int) == 48) = false ∨ (s.size = 1 ∧ ((s[0].toNat : Int) == 48) = true)) : Calls Tryz.prog 46 #[.string s, .int .i64 7] w fun e w' => e = .returned (numV7 s.data.toList) ∧ Below w.heap.size w w' := by
  have hne := str_ne7 (s := s) (by omega)
  have hb : decide ((7 : Int) < (s.size : Int)) = false := by simp; omega
  have hsl : s.data.toList.length = s.size := by simp
  have HH : Hid (s.data.toList.head? = some 48 → s.data.toList.length = 1) := fun e => by
    rcases hz with hz | hz
    · exfalso
      have h1 : s.data.toList[0]? = some 48 := by rw [← List.head?_eq_getElem?]; exact e
      rw [List.getElem?_eq_getElem (by omega)] at h1
      have h2 : s[0] = 48 := Option.some.inj h1
      rw [h2] at hz
      simp at hz
    · omega
  rcases hz with hz | ⟨hz1, hz⟩
  · skip
    go_enter Tryz.func46, Tryz.ntmps46
    go_wp2
    clear hz
    go_loopw [6, 7] (fun n i wr => ∃ k : Nat, k ≤ s.size ∧ i = .int .i64 k ∧ n = .int .i64 (valD (s.data.toList.take k)) ∧ (∀ d ∈ s.data.toList.take k, isD d) ∧ wr = w) (fun _ i _ => s.size - (intOf i).toNat)
    case atStart => exact ⟨0, Nat.zero_le _, rfl, rfl, by simp, rfl⟩
    case round =>
      obtain ⟨k, hk, rfl, rfl, hall, rfl⟩ := hrel
      have hvl := valD_le7 (s.data.toList.take k) hall (by rw [List.length_take]; omega)
      have HA : Hid (∀ d ∈ s.data.toList.take k, isD d) := hall
      clear hall
      obtain ⟨V, hV⟩ : ∃ V, V = valD (s.data.toList.take k) := ⟨_, rfl⟩
      rw [← hV] at hvl ⊢
      have HV : Hid (V = valD (s.data.toList.take k)) := hV
      clear hV
      by_cases hkl : k < s.size
      · have hkl' : k < s.data.toList.length := by omega
        have hgd : s[k] = s.data.toList[k] := rfl
        have HT : Hid (s.data.toList.take (k + 1) = s.data.toList.take k ++ [s[k]'hkl]) := List.take_succ_eq_append_getElem hkl'
        have HM : Hid (s[k]'hkl ∈ s.data.toList) := List.getElem_mem hkl'
        clear hkl' hgd hsl
        by_cases hd1 : (s[k].toNat : Int) < 48
        · have HN : Hid (numB7 s.data.toList = none) := num7_nodigit HM.out (Or.inl (by omega))
          go_wp2
          go_ret2
          exact ⟨by unfold numV7; rw [HN.out]; rfl, Below.refl _ _⟩
        · by_cases hd2 : (57 : Int) < (s[k].toNat : Int)
          · have HN : Hid (numB7 s.data.toList = none) := num7_nodigit HM.out (Or.inr (by omega))
            go_wp2
            go_ret2
            exact ⟨by unfold numV7; rw [HN.out]; rfl, Below.refl _ _⟩
          · have HD : Hid (isD s[k]) := ⟨by omega, by omega⟩
            go_wp2
            go_roundw
            case rel =>
              refine ⟨k + 1, by omega, by go_num, ?_, ?_, by first | rfl | trivial⟩
              · rw [HT.out, valD_snoc, ← HV.out]
              · intro d hd
                rw [HT.out, List.mem_append] at hd
                rcases hd with hd | hd
                · exact HA.out d hd
                · rw [List.mem_singleton] at hd
                  rw [hd]
                  exact HD.out
            case measure => simp [intOf]; omega
      · have hke : k = s.size := by omega
        subst hke
        have HN : Hid (numB7 s.data.toList = some V) := by
          have e : s.data.toList.take s.size = s.data.toList := List.take_of_length_le (by omega)
          have h1 := HA.out
          have h2 := HV.out
          rw [e] at h1 h2
          show _ = _
          rw [h2]
          exact num7_good h1 (fun e0 => by rw [e0] at hsl; simp at hsl; omega) (by omega) HH.out
        clear hsl
        go_wp2
        go_ret2
        exact ⟨by unfold numV7; rw [HN.out]; rfl, Below.refl _ _⟩
  · have hb1 : decide ((1 : Int) < (s.size : Int)) = false := by simp; omega
    clear hz1
    go_enter Tryz.func46, Tryz.ntmps46
    go_wp2
    clear hz hb1
    go_loopw [6, 7] (fun n i wr => ∃ k : Nat, k ≤ s.size ∧ i = .int .i64 k ∧ n = .int .i64 (valD (s.data.toList.take k)) ∧ (∀ d ∈ s.data.toList.take k, isD d) ∧ wr = w) (fun _ i _ => s.size - (intOf i).toNat)
    case atStart => exact ⟨0, Nat.zero_le _, rfl, rfl, by simp, rfl⟩
    case round =>
      obtain ⟨k, hk, rfl, rfl, hall, rfl⟩ := hrel
      have hvl := valD_le7 (s.data.toList.take k) hall (by rw [List.length_take]; omega)
      have HA : Hid (∀ d ∈ s.data.toList.take k, isD d) := hall
      clear hall
      obtain ⟨V, hV⟩ : ∃ V, V = valD (s.data.toList.take k) := ⟨_, rfl⟩
      rw [← hV] at hvl ⊢
      have HV : Hid (V = valD (s.data.toList.take k)) := hV
      clear hV
      by_cases hkl : k < s.size
      · have hkl' : k < s.data.toList.length := by omega
        have hgd : s[k] = s.data.toList[k] := rfl
        have HT : Hid (s.data.toList.take (k + 1) = s.data.toList.take k ++ [s[k]'hkl]) := List.take_succ_eq_append_getElem hkl'
        have HM : Hid (s[k]'hkl ∈ s.data.toList) := List.getElem_mem hkl'
        clear hkl' hgd hsl
        by_cases hd1 : (s[k].toNat : Int) < 48
        · have HN : Hid (numB7 s.data.toList = none) := num7_nodigit HM.out (Or.inl (by omega))
          go_wp2
          go_ret2
          exact ⟨by unfold numV7; rw [HN.out]; rfl, Below.refl _ _⟩
        · by_cases hd2 : (57 : Int) < (s[k].toNat : Int)
          · have HN : Hid (numB7 s.data.toList = none) := num7_nodigit HM.out (Or.inr (by omega))
            go_wp2
            go_ret2
            exact ⟨by unfold numV7; rw [HN.out]; rfl, Below.refl _ _⟩
          · have HD : Hid (isD s[k]) := ⟨by omega, by omega⟩
            go_wp2
            go_roundw
            case rel =>
              refine ⟨k + 1, by omega, by go_num, ?_, ?_, by first | rfl | trivial⟩
              · rw [HT.out, valD_snoc, ← HV.out]
              · intro d hd
                rw [HT.out, List.mem_append] at hd
                rcases hd with hd | hd
                · exact HA.out d hd
                · rw [List.mem_singleton] at hd
                  rw [hd]
                  exact HD.out
            case measure => simp [intOf]; omega
      · have hke : k = s.size := by omega
        subst hke
        have HN : Hid (numB7 s.data.toList = some V) := by
          have e : s.data.toList.take s.size = s.data.toList := List.take_of_length_le (by omega)
          have h1 := HA.out
          have h2 := HV.out
          rw [e] at h1 h2
          show _ = _
          rw [h2]
          exact num7_good h1 (fun e0 => by rw [e0] at hsl; simp at hsl; omega) (by omega) HH.out
        clear hsl
        go_wp2
        go_ret2
        exact ⟨by unfold numV7; rw [HN.out]; rfl, Below.refl _ _⟩
theorem refnum7_any (s : ByteArray) (w : World) : Calls Tryz.prog 46 #[.string s, .int .i64 7] w fun e w' => e = .returned (numV7 s.data.toList) ∧ Below w.heap.size w w' := by
  have hsl : s.data.toList.length = s.size := by simp
  by_cases h0 : s.size = 0
  · have hd : s.data.toList = [] := List.eq_nil_of_length_eq_zero (by omega)
    have hs : s = ⟨#[]⟩ := by apply ByteArray.ext; apply Array.toList_inj.1; exact hd
    rw [hd, hs]
    unfold numV7
    rw [num7_empty]
    exact rnum7_empty w
  · by_cases h4 : 7 < s.size
    · unfold numV7
      rw [numB7_long (by omega)]
      exact rnum7_long s w h4
    · by_cases hz : ((s[0]'(by omega)).toNat : Int) = 48
      · by_cases h1 : s.size = 1
        · exact rnum7_main s w (by omega) (by omega) (Or.inr ⟨h1, by simpa using hz⟩)
        · have hh : s.data.toList.head? = some 48 := by
            rw [List.head?_eq_getElem?, List.getElem?_eq_getElem (by omega)]
            refine congrArg some ?_
            exact UInt8.toNat_inj.1 (by have : s.data.toList[0] = s[0]'(by omega) := rfl; rw [this]; simp; omega)
          unfold numV7
          rw [num7_zero hh (by omega)]
          exact rnum7_zero s w (by omega) (by omega) (by simpa using hz)
      · exact rnum7_main s w (by omega) (by omega) (Or.inl (by simpa using hz))
end Go.Proofs.YtfconbblnmbnpahGreatDoor
namespace Go.Proofs.YtfconbblnmbnpahGreatDoor
open Go.RowKit

theorem nums7_snoc {ps : List (List UInt8)} {l : List Int} {u : List UInt8} {n : Int} (h : nums7 ps = some l) (hu : numB7 u = some n) : nums7 (ps ++ [u]) = some (l ++ [n]) := by
  induction ps generalizing l with
  | nil => obtain rfl := Option.some.inj h; simp [nums7, hu]
  | cons x ps ih =>
    unfold nums7 at h
    cases h1 : numB7 x with
    | none => rw [h1] at h; cases h
    | some m =>
      cases h2 : nums7 ps with
      | none => rw [h1, h2] at h; cases h
      | some l' =>
        rw [h1, h2] at h
        obtain rfl := Option.some.inj h
        rw [List.cons_append, nums7, h1, ih h2]
        rfl
theorem nums7_bad {ps qs : List (List UInt8)} {u : List UInt8} (hu : numB7 u = none) : nums7 (ps ++ u :: qs) = none := by
  induction ps with
  | nil => rw [List.nil_append, nums7, hu]
  | cons x ps ih =>
    rw [List.cons_append, nums7, ih]
    cases numB7 x <;> rfl
set_option maxRecDepth 1000000 in
set_option maxHeartbeats 4000000 in
theorem numbers7_own (v : Value) (p0 : List UInt8) (ls : List (List UInt8)) (w : World) (hv : Strs w v (p0 :: ls)) (hlen : ls.length ≤ 1099511627776) :
    Calls Tryz.prog 68 #[v, .int .i64 7] w fun e w' => ∃ v', e = .returned (.tuple #[v', .bool (nums7 ls).isSome]) ∧ w'.ownsRow w.heap.size 3 1 v' ((nums7 ls).getD []).length (((nums7 ls).getD []).map (Value.int .i64)) ∧ Below w.heap.size w w' := by
  obtain ⟨g, cap, rfl, hg, hc⟩ := hv
  rw [List.length_cons]
  obtain ⟨ii, hi, hz0, hz1, hz2⟩ := info_parts infoIntC
  go_enter Tryz.func68, Tryz.ntmps68
  go_wp2
  go_loopw [6, 7] (fun o i wr => ∃ (k : Nat) (pre : List Int), k ≤ ls.length ∧ pre.length ≤ k ∧ i = .int .i64 ((k : Int) + 1) ∧ wr.ownsRow w.heap.size 3 1 o pre.length (pre.map (Value.int .i64)) ∧ Below w.heap.size w wr ∧ nums7 (ls.take k) = some pre) (fun _ i _ => ls.length + 1 - (intOf i).toNat)
  case atStart => exact ⟨0, [], Nat.zero_le _, by simp, rfl, World.ownsRow_nil _ _ _ _, Below.refl _ _, by simp [nums7]⟩
  case round =>
    obtain ⟨k, pre, hk, hpl, rfl, hown, hb, hinv⟩ := hrel
    have HI : Hid (nums7 (ls.take k) = some pre) := hinv
    clear hinv
    have hsz := hb.size
    by_cases hkl : k < ls.length
    · obtain ⟨p, hp⟩ : ∃ p, ls[k]? = some p := ⟨ls[k], List.getElem?_eq_getElem hkl⟩
      have HP : Hid (ls[k]? = some p) := hp
      have c0 : wr.cell? ⟨g, k + 1, none⟩ = some (.string ⟨p.toArray⟩) := (hb.cell (p := ⟨g, k + 1, none⟩) hg).trans (hc (k + 1) p (by simpa using hp))
      have hnum := refnum7_any ⟨p.toArray⟩ wr
      clear hp hc
      have hki : (k : Int) + 1 < (ls.length : Int) + 1 := by omega
      cases hn : numB7 p with
      | none =>
        have HN : Hid (nums7 ls = none) := by
          show _ = _
          rw [numsOf_split HP.out]
          exact nums7_bad hn
        unfold numV7 at hnum
        simp only [hn] at hnum
        rw [show (none : Option Int).getD 0 = 0 from rfl, show (none : Option Int).isSome = false from rfl] at hnum
        clear hn HI hown
        go_wp2_with (go_at_call 46; refine hnum.mono ?_; rintro e w1 ⟨rfl, b1⟩; clear hnum)
        go_ret2
        exact ⟨_, by rw [HN.out]; rfl, by rw [HN.out]; exact World.ownsRow_nil _ _ _ _, hb.trans (b1.mono hsz)⟩
      | some n =>
        have HN : Hid (nums7 (ls.take (k + 1)) = some (pre ++ [n])) := by
          show _ = _
          rw [take_at HP.out]
          exact nums7_snoc HI.out hn
        unfold numV7 at hnum
        simp only [hn] at hnum
        rw [show (some n : Option Int).getD 0 = n from rfl, show (some n : Option Int).isSome = true from rfl] at hnum
        clear hn HI
        go_wp2_with (first | (go_at_call 46; refine hnum.mono ?_; rintro e w1 ⟨rfl, b1⟩; have hown1 := own_all hown b1; have hb1 := hb.trans (b1.mono hsz); have hsz1 := hb1.size; clear hnum hown) | (at_builtin; refine wpList_append_own _ rfl _ _ 41 rfl w.heap.size 3 ii (.int .i64 0) 1 8 Tryz.underlying41 hi hz0 hz1 hz2 rfl (by decide) _ _ _ rfl (hown1.alloc _) ⟨w1.heap.size, 0, none⟩ 1 1 [.int .i64 n] rfl rfl ?c1A ?c2A ?c3A ?c4A ?c5A ?_))
        case c1A =>
          intro j u hj
          match j, hj with
          | 0, hj => simp at hj; subst hj; simp [Addr.add]
        case c2A => intro u hu; simp at hu; subst hu; rfl
        case c3A => unfold maxLen; omega
        case c4A => omega
        case c5A => simp; omega
        intro v' w2 hown' hgrow _
        have hb2 : Below w.heap.size w w2 := (hb1.alloc hsz1 _).grown hgrow (by simp; omega) (fun j hj => (hown1.lt j hj).1)
        have R : w2.ownsRow w.heap.size 3 1 v' (pre ++ [n]).length ((pre ++ [n]).map (Value.int .i64)) := by simpa using hown'
        clear hown' hgrow hown1
        go_wp2
        go_roundw
        case rel => exact ⟨k + 1, pre ++ [n], by omega, by simp; omega, by go_num, R, hb2, HN.out⟩
        case measure => simp [intOf]; omega
    · have hke : k = ls.length := by omega
      subst hke
      have HN : Hid (nums7 ls = some pre) := by have := HI.out; rwa [List.take_length] at this
      have HV : Hid (wr.ownsRow w.heap.size 3 1 u6 pre.length (pre.map (Value.int .i64))) := hown
      obtain ⟨g', n', cap', rfl⟩ := slice_form hown
      clear hown
      go_wp2
      go_ret2
      exact ⟨_, by rw [HN.out]; rfl, by rw [HN.out]; exact HV.out, hb⟩
end Go.Proofs.YtfconbblnmbnpahGreatDoor
namespace Go.Proofs.YtfconbblnmbnpahGreatDoor
open Go.RowKit

set_option maxRecDepth 100000 in
set_option maxHeartbeats 1000000 in
theorem hit_any (s : S3) (tb : Nat) (t : Int) (w : World) (ht : w.cell? ⟨tb, 0, none⟩ = some (.int .i64 t)) :
    Calls Tryz.prog 166 #[.agg #[.int .i64 s.1, .int .i64 s.2.1, .int .i64 s.2.2], .pointer (some ⟨tb, 0, none⟩)] w fun e w' => e = .returned (.bool (hits t s)) ∧ Below w.heap.size w w' := by
  have hlt := ltc ht
  have hn : tb ≠ w.heap.size := by omega
  obtain ⟨a, b, r⟩ := s
  simp only
  by_cases h1 : a ≤ t
  · by_cases h2 : t < b
    · have HF : Hid (hits t (a, b, r) = true) := by show _ = _; simp [hits, h1, h2]
      go_enter Tryz.func166, Tryz.ntmps166
      go_wp2
      go_ret
      exact ⟨retB HF.out.symm, (Below.refl _ _).alloc (Nat.le_refl _) _⟩
    · have h2' : decide (t < b) = false := by simpa using h2
      have HF : Hid (hits t (a, b, r) = false) := by show _ = _; simp [hits, h2]
      go_enter Tryz.func166, Tryz.ntmps166
      go_wp2
      go_ret
      exact ⟨retB HF.out.symm, (Below.refl _ _).alloc (Nat.le_refl _) _⟩
  · have h1' : decide (a ≤ t) = false := by simpa using h1
    have HF : Hid (hits t (a, b, r) = false) := by show _ = _; simp [hits, h1]
    go_enter Tryz.func166, Tryz.ntmps166
    go_wp2
    go_ret
    exact ⟨retB HF.out.symm, (Below.refl _ _).alloc (Nat.le_refl _) _⟩

theorem hidx_some {l : List S3} {t : Int} {k : Nat} (h : l.findIdx? (hits t) = some k) : hidx l t = k := by unfold hidx; rw [h]
theorem hidx_none {l : List S3} {t : Int} (h : l.findIdx? (hits t) = none) : hidx l t = -1 := by unfold hidx; rw [h]

set_option maxRecDepth 100000 in
set_option maxHeartbeats 2000000 in
theorem idxHold (l : List S3) (t : Int) (b off cap tb : Nat) (w : World) (ht : w.cell? ⟨tb, 0, none⟩ = some (.int .i64 t)) (hlen : l.length ≤ 12) (hlt : b < w.heap.size) (hc : SpC w b off l) :
    Calls Tryz.prog 130 #[.slice (some ⟨b, off, none⟩) l.length cap, .func (.func 166) #[] #[.pointer (some ⟨tb, 0, none⟩)]] w fun e w' =>
      e = .returned (.int .i64 (hidx l t)) ∧ Below w.heap.size w w' := by
  have hlt1 := ltc ht
  go_enter Tryz.func130, Tryz.ntmps130
  go_wp2
  go_loopw [8] (fun i wr => ∃ k : Nat, k ≤ l.length ∧ i = .int .i64 k ∧ (∀ (j : Nat) x, j < k → l[j]? = some x → hits t x = false) ∧ Below w.heap.size w wr) (fun i _ => l.length - (intOf i).toNat)
  case atStart => exact ⟨0, Nat.zero_le _, rfl, fun j x hj => by omega, Below.refl _ _⟩
  case round =>
    obtain ⟨k, hk, rfl, hall, hb⟩ := hrel
    have e1 : wr.cell? ⟨tb, 0, none⟩ = some (.int .i64 t) := (hb.cell (p := ⟨tb, 0, none⟩) hlt1).trans ht
    have Hall : Hid (∀ (j : Nat) x, j < k → l[j]? = some x → hits t x = false) := hall
    clear hall
    by_cases hkl : k < l.length
    · obtain ⟨o, ho⟩ : ∃ o, l[k]? = some o := ⟨l[k], List.getElem?_eq_getElem hkl⟩
      have HO : Hid (l[k]? = some o) := ho
      obtain ⟨c0, c1, c2⟩ := hc.below hb hlt k o ho
      clear ho
      have hon := hit_any o tb t wr e1
      clear e1
      cases hok : hits t o with
      | false =>
        have HN : Hid (hits t o = false) := hok
        rw [hok] at hon
        clear hok
        go_wp2_with (go_at_call 166; refine hon.mono ?_; rintro e w1 ⟨rfl, b1⟩; clear hon)
        go_roundw
        case rel =>
          refine ⟨k + 1, by omega, by go_num, fun j x hj hx => ?_, hb.trans (b1.mono hb.size)⟩
          by_cases hjk : j < k
          · exact Hall.out j x hjk hx
          · obtain rfl : j = k := by omega
            rw [HO.out] at hx
            obtain rfl := Option.some.inj hx
            exact HN.out
        case measure => simp [intOf]; omega
      | true =>
        have HF : Hid (l.findIdx? (hits t) = some k) := fidx_hit Hall.out HO.out hok
        rw [hok] at hon
        clear hok
        go_wp2_with (go_at_call 166; refine hon.mono ?_; rintro e w1 ⟨rfl, b1⟩; clear hon)
        go_ret
        exact ⟨retI (hidx_some HF.out).symm, hb.trans (b1.mono hb.size)⟩
    · have HF : Hid (l.findIdx? (hits t) = none) := fidx_miss (fun i x hi hx => Hall.out i x (by omega) hx)
      clear e1
      go_wp2
      go_ret
      exact ⟨retI (hidx_none HF.out).symm, hb⟩
set_option maxRecDepth 100000 in
set_option maxHeartbeats 2000000 in
theorem idxHold_nil (fn : Value) (a : Option Addr) (cap : Nat) (w : World) :
    Calls Tryz.prog 130 #[.slice a 0 cap, fn] w fun e w' => e = .returned (.int .i64 (-1)) ∧ Below w.heap.size w w' := by
  go_enter Tryz.func130, Tryz.ntmps130
  go_wp2
  refine wp_loop_rounds 1 ?_
  rw [rounds_succ]
  go_wp2
  go_ret
  exact ⟨rfl, Below.refl _ _⟩

set_option maxRecDepth 100000 in
set_option maxHeartbeats 2000000 in
theorem holder_nil (a : Option Addr) (cap : Nat) (t : Int) (w : World) :
    Calls Tryz.prog 132 #[.slice a 0 cap, .int .i64 t] w fun e w' => e = .returned (.int .i64 (-1)) ∧ Below w.heap.size w w' := by
  have hI := fun fn W => idxHold_nil fn a cap W
  go_enter Tryz.func132, Tryz.ntmps132
  go_wp2_with (go_at_call 130; refine (hI _ _).mono ?_; rintro e w1 ⟨rfl, b1⟩; clear hI)
  go_ret
  exact ⟨rfl, ((Below.refl _ _).alloc (Nat.le_refl _) _).trans (b1.mono (by simp))⟩
set_option maxRecDepth 100000 in
set_option maxHeartbeats 2000000 in
theorem holder_some (l : List S3) (b off cap : Nat) (t : Int) (w : World) (hlen : l.length ≤ 12) (hlt : b < w.heap.size) (hc : SpC w b off l) :
    Calls Tryz.prog 132 #[.slice (some ⟨b, off, none⟩) l.length cap, .int .i64 t] w fun e w' => e = .returned (.int .i64 (hold l t)) ∧ Below w.heap.size w w' := by
  have b0 : Below w.heap.size w (w.alloc (.cells #[.int .i64 t] 3)) := (Below.refl _ _).alloc (Nat.le_refl _) _
  have hI := idxHold l t b off cap w.heap.size (w.alloc (.cells #[.int .i64 t] 3)) (by simp) hlen (Nat.lt_of_lt_of_le hlt b0.size) (hc.below b0 hlt)
  cases hfi : l.findIdx? (hits t) with
  | none =>
    have HF : Hid (hold l t = -1) := hold_none hfi
    rw [hidx_none hfi] at hI
    clear hfi
    go_enter Tryz.func132, Tryz.ntmps132
    go_wp2_with (go_at_call 130; refine hI.mono ?_; rintro e w1 ⟨rfl, b1⟩; clear hI)
    go_ret
    exact ⟨retI HF.out.symm, b0.trans (b1.mono (by simp))⟩
  | some k =>
    have hk : k < l.length := by
      rw [List.findIdx?_eq_some_iff_getElem] at hfi
      exact hfi.1
    obtain ⟨o, ho⟩ : ∃ o, l[k]? = some o := ⟨l[k], List.getElem?_eq_getElem hk⟩
    have HF : Hid (hold l t = o.2.2) := hold_some hfi ho
    rw [hidx_some hfi] at hI
    obtain ⟨c0, c1, c2⟩ := hc.below b0 hlt k o ho
    have hlt' : b < (w.alloc (.cells #[.int .i64 t] 3)).heap.size := Nat.lt_of_lt_of_le hlt b0.size
    clear hfi ho
    go_enter Tryz.func132, Tryz.ntmps132
    go_wp2_with (go_at_call 130; refine hI.mono ?_; rintro e w1 ⟨rfl, b1⟩; clear hI; have d2 := (b1.cell (p := ⟨b, _, none⟩) hlt').trans c2; clear c0 c1 c2)
    go_ret
    exact ⟨retI HF.out.symm, b0.trans (b1.mono (by simp))⟩
theorem holder_any (l : List S3) (v : Value) (t : Int) (w : World) (hl : Sps w v l) (hlen : l.length ≤ 12) :
    Calls Tryz.prog 132 #[v, .int .i64 t] w fun e w' => e = .returned (.int .i64 (hold l t)) ∧ Below w.heap.size w w' := by
  rcases hl with ⟨rfl, ao, cap, rfl⟩ | ⟨b, off, cap, rfl, _, hlt, hc⟩
  · exact holder_nil ao cap t w
  · exact holder_some l b off cap t w hlen hlt hc
end Go.Proofs.YtfconbblnmbnpahGreatDoor
namespace Go.Proofs.YtfconbblnmbnpahGreatDoor
open Go.RowKit

set_option maxRecDepth 100000 in
set_option maxHeartbeats 4000000 in
theorem mul64_few (n : Nat) (hn : n ≤ 12) (w : World) : Calls Tryz.prog 177 #[.int .u64 1, .int .u64 n] w fun e w' => e = .returned (.tuple #[.int .u64 0, .int .u64 n]) ∧ w' = w := by
  have h : n = 0 ∨ n = 1 ∨ n = 2 ∨ n = 3 ∨ n = 4 ∨ n = 5 ∨ n = 6 ∨ n = 7 ∨ n = 8 ∨ n = 9 ∨ n = 10 ∨ n = 11 ∨ n = 12 := by omega
  clear hn
  rcases h with rfl | rfl | rfl | rfl | rfl | rfl | rfl | rfl | rfl | rfl | rfl | rfl | rfl <;>
  · go_enter Tryz.func177, Tryz.ntmps177
    go_wp2
    go_ret2
    exact ⟨rfl, rfl⟩
set_option maxRecDepth 100000 in
set_option maxHeartbeats 4000000 in
theorem mul_few (n : Nat) (hn : n ≤ 12) (w : World) : Calls Tryz.prog 150 #[.int .u64 1, .int .u64 n] w fun e w' => e = .returned (.tuple #[.int .u64 0, .int .u64 n]) ∧ w' = w := by
  have q := mul64_few n hn w
  clear hn
  go_enter Tryz.func150, Tryz.ntmps150
  go_wp2_with (go_at_call 177; refine q.mono ?_; rintro e w1 ⟨rfl, hw1⟩; subst w1; clear q)
  go_ret2
  exact ⟨rfl, rfl⟩
end Go.Proofs.YtfconbblnmbnpahGreatDoor
namespace Go.Proofs.YtfconbblnmbnpahGreatDoor
open Go.RowKit

/-- The first so many of the cells of a block are a word. -/
structure RepB (w0 W : World) (k n j : Nat) (x : ByteArray) : Prop where
  is : ∀ i, i < n → (W.cell? ⟨k, i, none⟩).isSome = true
  free : ∀ i, W.frozen? ⟨k, i, none⟩ = false
  at_ : ∀ i, i < j → W.cell? ⟨k, i, none⟩ = some (.string x)
  ge : w0.heap.size ≤ k
  lt : k < W.heap.size
  bel : Below w0.heap.size w0 W
theorem RepB.more {w0 W : World} {k n j : Nat} {x : ByteArray} (h : RepB w0 W k n j x) (m : Nat) (hm : j + m ≤ n) : RepB w0 (W.setCells k j (List.replicate m (.string x))) k n (j + m) x := by
  have hin := World.cell?_setCells_in k (List.replicate m (.string x)) j W (fun i hi => h.is _ (by simp at hi; omega))
  have hsz : (W.setCells k j (List.replicate m (.string x))).heap.size = W.heap.size := by
    have : ∀ (vs : List Value) (o : Nat) (V : World), (V.setCells k o vs).heap.size = V.heap.size := by
      intro vs
      induction vs with
      | nil => intro o V; rfl
      | cons v r ih => intro o V; rw [World.setCells, ih]; simp
    exact this _ _ _
  have hbl : ∀ (vs : List Value) (o : Nat) (V : World), Below w0.heap.size w0 V → Below w0.heap.size w0 (V.setCells k o vs) := by
    intro vs
    induction vs with
    | nil => intro o V hV; exact hV
    | cons v r ih => intro o V hV; exact ih _ _ (hV.setCell (p := ⟨k, o, none⟩) h.ge v)
  refine ⟨fun i hi => ?_, fun i => by rw [World.frozen?_setCells]; exact h.free i, fun i hi => ?_, h.ge, by rw [hsz]; exact h.lt, hbl _ _ _ h.bel⟩
  · by_cases hi2 : j ≤ i ∧ i < j + m
    · have := hin (i - j) (by simp; omega)
      rw [show j + (i - j) = i by omega] at this
      rw [this]
      rfl
    · rw [World.cell?_setCells_out k _ _ _ _ (fun _ _ => by show i < j ∨ j + _ ≤ i; simp; omega)]
      exact h.is i hi
  · by_cases hi2 : i < j
    · rw [World.cell?_setCells_out k _ _ _ _ (fun _ _ => Or.inl hi2)]
      exact h.at_ i hi2
    · have := hin (i - j) (by simp; omega)
      rw [show j + (i - j) = i by omega] at this
      rw [this]
      simp
theorem RepB.drew {w0 W : World} {k n j : Nat} {x : ByteArray} (h : RepB w0 W k n j x) : RepB w0 W.drew k n j x := ⟨h.is, h.free, h.at_, h.ge, h.lt, h.bel.drew⟩
theorem made_str (n : Nat) (hn : n ≤ 12) (W : World) : (Instr.makeSlice 103 (.int .i64 n) (.int .i64 n)).run Tryz.prog W = .ok (.slice (some ⟨W.heap.size, 0, none⟩) n n) (W.alloc (.cells (madeCells #[.string ⟨#[]⟩] n) 9)) := by
  obtain ⟨i, hi, hz1, hz2, hz3⟩ := info3 (show (Tryz.prog.info? 9).map (fun i => (i.zero, i.size, i.bytes)) = some (some (.string ⟨#[]⟩), 1, 16) by kernel_rfl)
  have := run_make (P := Tryz.prog) W 103 9 i _ (by kernel_rfl) hi hz1 .i64 .i64 n n (by omega) (Int.le_refl _) (by rw [hz3]; omega) (by omega)
  rw [hz2] at this
  simpa [Value.cells] using this
theorem rep_new (w : World) (n : Nat) (x : ByteArray) : RepB w (w.alloc (.cells (madeCells #[.string ⟨#[]⟩] n) 9)) w.heap.size n 0 x := by
  have hh : (w.alloc (.cells (madeCells #[.string ⟨#[]⟩] n) 9)).heap[w.heap.size]? = some (.cells (madeCells #[.string ⟨#[]⟩] n) 9 (0, 0)) := World.alloc_heap_new _ _
  refine ⟨fun i hi => ?_, fun i => ?_, fun i hi => by omega, Nat.le_refl _, by simp, (Below.refl _ _).alloc (Nat.le_refl _) _⟩
  · unfold World.cell?
    simp only [hh]
    have : i < (madeCells #[Value.string ⟨#[]⟩] n).size := by rw [size_madeCells]; exact hi
    simp [this]
  · unfold World.frozen?
    simp only [hh]
    simp
theorem copy_rep {w0 W : World} {k n j : Nat} {x : ByteArray} (h : RepB w0 W k n j x) (a : Addr) (sl sc dc m : Nat) (hm : m = min sl (n - j)) (hs : ∀ i, i < m → W.cell? (a.add i) = some (.string x)) (ty : TypeId) :
    (Builtin.copy_ #[103, 103] ty #[.slice (some ⟨k, j, none⟩) (n - j) dc, .slice (some a) sl sc]).run Tryz.prog W = .ok (.int .i64 m) (W.setCells k j (List.replicate m (.string x))) := by
  have := Go.run_copy_cells (P := Tryz.prog) W 103 103 ty 9 k j (n - j) dc a sl sc (List.replicate m (.string x)) (by kernel_rfl) (by kernel_rfl) (by rw [List.length_replicate, hm]) (fun i v hv => by
    rw [List.getElem?_replicate] at hv
    split at hv
    · rename_i hi
      obtain rfl := Option.some.inj hv
      exact hs i hi
    · cases hv) (fun i hi => h.is _ (by rw [List.length_replicate] at hi; omega)) (fun i _ => h.free _) (fun v hv => by rw [List.eq_of_mem_replicate hv]; rfl)
  rw [List.length_replicate] at this
  exact this
set_option maxRecDepth 100000 in
set_option maxHeartbeats 4000000 in
theorem repeat_none (x : ByteArray) (g : Nat) (w : World) : Calls Tryz.prog 112 #[.slice (some ⟨g, 0, none⟩) 1 1, .int .i64 0] w fun e w' => ∃ k, e = .returned (.slice (some ⟨k, 0, none⟩) 0 0) ∧ RepB w w' k 0 0 x := by
  have hmk : ∀ W : World, (Instr.makeSlice 103 (.int .i64 0) (.int .i64 0)).run Tryz.prog W = .ok (.slice (some ⟨W.heap.size, 0, none⟩) 0 0) (W.alloc (.cells (madeCells #[.string ⟨#[]⟩] 0) 9)) := fun W => made_str 0 (by omega) W
  have hn := rep_new w 0 x
  have HN : Hid (RepB w (w.alloc (.cells (madeCells #[.string ⟨#[]⟩] 0) 9)) w.heap.size 0 0 x) := hn
  have q : ∀ w, Calls Tryz.prog 150 #[.int .u64 1, .int .u64 0] w fun e w' => e = .returned (.tuple #[.int .u64 0, .int .u64 0]) ∧ w' = w := fun w => mul_few 0 (by omega) w
  have hcp : ∀ (ty : TypeId) (W : World), (Builtin.copy_ #[103, 103] ty #[.slice (some ⟨w.heap.size, 0, none⟩) 0 0, .slice (some ⟨g, 0, none⟩) 1 1]).run Tryz.prog W = .ok (.int .i64 0) W := fun ty W => Go.run_copy_none (P := Tryz.prog) W 103 103 ty 9 _ _ 0 0 1 1 (by kernel_rfl) (by kernel_rfl) rfl
  clear hn
  go_enter Tryz.func112, Tryz.ntmps112
  go_wp2_with (first | (go_at_call 150; refine (q _).mono ?_; rintro e w1 ⟨rfl, hw1⟩; subst w1))
  refine wp_loop_rounds 1 ?_
  rw [rounds_succ]
  go_wp2
  go_ret
  exact ⟨_, rfl, HN.out⟩
set_option maxRecDepth 100000 in
set_option maxHeartbeats 4000000 in
theorem repeat_some (x : ByteArray) (g n : Nat) (h0 : 0 < n) (hn : n ≤ 12) (w : World) (hg : w.cell? ⟨g, 0, none⟩ = some (.string x)) : Calls Tryz.prog 112 #[.slice (some ⟨g, 0, none⟩) 1 1, .int .i64 n] w fun e w' => ∃ k, e = .returned (.slice (some ⟨k, 0, none⟩) n n) ∧ RepB w w' k n n x := by
  have hmk := made_str n hn
  have q := fun w => mul_few n hn w
  have hnew := rep_new w n x
  have hgl := wlt hg
  have hg1 : (w.alloc (.cells (madeCells #[.string ⟨#[]⟩] n) 9)).cell? ⟨g, 0, none⟩ = some (.string x) := (hnew.bel.cell (p := ⟨g, 0, none⟩) hgl).trans hg
  have hcp : ∀ ty : TypeId, (Builtin.copy_ #[103, 103] ty #[.slice (some ⟨w.heap.size, 0, none⟩) n n, .slice (some ⟨g, 0, none⟩) 1 1]).run Tryz.prog (w.alloc (.cells (madeCells #[.string ⟨#[]⟩] n) 9)) = .ok (.int .i64 1) ((w.alloc (.cells (madeCells #[.string ⟨#[]⟩] n) 9)).setCells w.heap.size 0 (List.replicate 1 (.string x))) := fun ty =>
    copy_rep hnew ⟨g, 0, none⟩ 1 1 n 1 (by omega) (fun i hi => by obtain rfl : i = 0 := (by omega); exact hg1) ty
  have HM : Hid (RepB w ((w.alloc (.cells (madeCells #[.string ⟨#[]⟩] n) 9)).setCells w.heap.size 0 (List.replicate 1 (.string x))) w.heap.size n 1 x) := hnew.more 1 (by omega)
  have hd1 : decide ((n : Int) < 0) = false := decide_eq_false (by omega)
  have hd2 : decide (9223372036854775807 < (n : Int)) = false := decide_eq_false (by omega)
  clear hnew hg1
  go_enter Tryz.func112, Tryz.ntmps112
  go_wp2_with (first | (go_at_call 150; refine (q _).mono ?_; rintro e w1 ⟨rfl, hw1⟩; subst w1))
  go_loopw [8] (fun i wr => ∃ j : Nat, 1 ≤ j ∧ j ≤ n ∧ i = .int .i64 j ∧ RepB w wr w.heap.size n j x) (fun i _ => n - (intOf i).toNat)
  case atStart => exact ⟨1, Nat.le_refl _, by omega, rfl, HM.out⟩
  case round =>
  obtain ⟨j, hj1, hjn, rfl, hR⟩ := hrel
  clear HM hcp hmk q hg hd1 hd2
  by_cases hlt : j < n
  · have hji : (j : Int) < (n : Int) := by omega
    obtain ⟨m, hm⟩ : ∃ m, m = min j (n - j) := ⟨_, rfl⟩
    have HR : Hid (RepB w (wr.drew.setCells w.heap.size j (List.replicate m (.string x))) w.heap.size n (j + m) x) := hR.drew.more m (by omega)
    have hcp : ∀ ty : TypeId, (Builtin.copy_ #[103, 103] ty #[.slice (some ⟨w.heap.size, j, none⟩) (n - j) (n - j), .slice (some ⟨w.heap.size, 0, none⟩) j n]).run Tryz.prog wr.drew = .ok (.int .i64 m) (wr.drew.setCells w.heap.size j (List.replicate m (.string x))) := fun ty =>
      copy_rep hR.drew ⟨w.heap.size, 0, none⟩ j n (n - j) m hm (fun i hi => by rw [Addr.add_lit, Nat.zero_add]; exact hR.at_ i (by omega)) ty
    have hm1 : 1 ≤ m ∧ j + m ≤ n := by omega
    have hne : ¬ n = j := by omega
    clear hR hm
    go_wp2
    go_region
    all_goals
      go_wp2_with fail
      go_roundw
      case rel => exact ⟨j + m, by omega, by omega, by go_num, HR.out⟩
      case measure => simp [intOf]; omega
  have hji : decide ((j : Int) < (n : Int)) = false := decide_eq_false (by omega)
  have hjn2 : decide (j < n) = false := decide_eq_false (by omega)
  obtain rfl : j = n := by omega
  have HR : Hid (RepB w wr w.heap.size j j x) := hR
  clear hR
  go_wp2
  go_ret
  exact ⟨_, rfl, HR.out⟩
end Go.Proofs.YtfconbblnmbnpahGreatDoor
