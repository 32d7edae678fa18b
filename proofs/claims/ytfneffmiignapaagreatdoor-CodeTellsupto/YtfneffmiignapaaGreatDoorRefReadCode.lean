/-
  frameref1.ReadCode: a text as code; of any text.
-/
import Derived.Test.YtfneffmiignapaaGreatDoorParse
import Derived.Test.YtfneffmiignapaaGreatDoorRefReadOp
import Derived.Test.YtfneffmiignapaaGreatDoorCutText
import Derived.Test.YtfneffmiignapaaGreatDoorRefCode
namespace Go.Proofs.YtfneffmiignapaaGreatDoor
open Go.RowKit

set_option maxRecDepth 1000000 in
set_option maxHeartbeats 8000000 in
theorem readcode_open (t : ByteArray) (ps : List (List UInt8)) (q : List UInt8) (w : World) (hs : t.size ≤ 1099511627776) (hc : cutB 10 t.data.toList = ps ++ [q]) (hq : q ≠ []) :
    Calls Tryz.prog 12 #[.string t] w fun e w' => e = .returned (.tuple #[.slice none 0 0, .int .i64 2]) ∧ Below w.heap.size w w' := by
  have hcut := rcut_text t ps q w hs hc
  have hne : (q == []) = false := by simpa using hq
  have hlen : ps.length ≤ 1099511627776 := by
    have := (cutGo_len 10 t.data.toList []).2
    rw [show cutGo 10 [] t.data.toList = ps ++ [q] from hc] at this
    simp at this
    omega
  clear hc hq
  go_enter Tryz.func12, Tryz.ntmps12
  go_wp2_with (go_at_call 25; refine hcut.mono ?_; rintro e w1 ⟨⟨g, cap, rfl, hg, hgq, hgc⟩, b1⟩; clear hcut hgc)
  go_ret2
  exact ⟨rfl, b1⟩

theorem ret_code {p : List O3 × Int} {v : Value} {z : Int} (h : p.2 = z) : Ending.returned (.tuple #[v, .int .i64 z]) = .returned (.tuple #[v, .int .i64 p.2]) := by rw [h]

set_option maxRecDepth 1000000 in
set_option maxHeartbeats 8000000 in
theorem readcode_shut (t : ByteArray) (ps : List (List UInt8)) (w : World) (hs : t.size ≤ 1099511627776) (hc : cutB 10 t.data.toList = ps ++ [[]]) (hl : linesB t.data.toList = ps.map (· ++ [10])) :
    Calls Tryz.prog 12 #[.string t] w fun e w' => ∃ vv, e = .returned (.tuple #[vv, .int .i64 (parseB t.data.toList).2]) ∧ Ops w' vv (parseB t.data.toList).1 ∧ Below w.heap.size w w' := by
  have hcut := rcut_text t ps [] w hs hc
  have hlen : ps.length ≤ 1099511627776 := by
    have := (cutGo_len 10 t.data.toList []).2
    rw [show cutGo 10 [] t.data.toList = ps ++ [[]] from hc] at this
    simp at this
    omega
  have hpl : ∀ p ∈ ps, (⟨p.toArray⟩ : ByteArray).size ≤ 1099511627776 := fun p hp => by
    have := piece_len t.data.toList [] p (c := 10) (by rw [show cutGo 10 [] t.data.toList = ps ++ [[]] from hc]; simp [hp])
    rw [ba_size]
    simp at this
    omega
  have HL : Hid (linesB t.data.toList = ps.map (· ++ [10])) := hl
  clear hc hl
  obtain ⟨ii, hi, hz0, hz1, hz2⟩ := info_parts infoOp
  obtain ⟨R, hR⟩ : ∃ R, R = parseB t.data.toList := ⟨_, rfl⟩
  rw [← hR]
  have HR : Hid (R = parseB t.data.toList) := hR
  clear hR
  go_enter Tryz.func12, Tryz.ntmps12
  go_wp2_with (go_at_call 25; refine hcut.mono ?_; rintro e w1 ⟨⟨g, cap, rfl, hg, hgq, hgc⟩, b1⟩; clear hcut)
  have hw1 := b1.size
  clear hgq
  go_loopw [5, 6] (fun o i wr => ∃ (k : Nat) (os : List O3), k ≤ ps.length ∧ os.length ≤ k ∧ i = .int .i64 k ∧ wr.ownsRow w1.heap.size 45 3 o os.length (cells3 os) ∧ Below w1.heap.size w1 wr ∧ Hid (opsOf ((ps.take k).map (· ++ [10])) = some os)) (fun _ i _ => ps.length - (intOf i).toNat)
  case atStart => exact ⟨0, [], Nat.zero_le _, by simp, rfl, World.ownsRow_nil _ _ _ _, Below.refl _ _, by show _ = _; simp [opsOf]⟩
  case round =>
    obtain ⟨k, os, hk, hol, rfl, hown, hb, HI⟩ := hrel
    have hsz := hb.size
    have hbw : Below w.heap.size w wr := b1.trans (hb.mono hw1)
    by_cases hkl : k < ps.length
    · obtain ⟨p, hp⟩ : ∃ p, ps[k]? = some p := ⟨ps[k], List.getElem?_eq_getElem hkl⟩
      have HP : Hid (ps[k]? = some p) := hp
      have c0 : wr.cell? ⟨g, k, none⟩ = some (.string ⟨p.toArray⟩) := (hb.cell (p := ⟨g, k, none⟩) hg).trans (hgc k p hp)
      have hrd := rop_any ⟨p.toArray⟩ wr (hpl p (List.mem_of_getElem? hp))
      rw [show (⟨p.toArray⟩ : ByteArray).data.toList = p from rfl] at hrd
      clear hp hgc hpl
      have hki : (k : Int) < (ps.length : Int) := by omega
      cases hn : opRead (p ++ [10]) with
      | none =>
        have HN : Hid (R = ([], 2)) := by
          show _ = _
          rw [HR.out]
          apply parseB_bad
          rw [HL.out, numsOf_split HP.out, List.map_append, List.map_cons]
          exact opsOf_bad hn
        rw [hn] at hrd
        unfold opRes at hrd
        simp only at hrd
        clear hn HI hown
        go_wp2_with (go_at_call 26; refine hrd.mono ?_; rintro e w2 ⟨rfl, b2⟩; clear hrd)
        go_ret2
        exact ⟨_, ret_code (by rw [HN.out]), by rw [HN.out]; exact Or.inl ⟨rfl, _, _, rfl⟩, hbw.trans ((b2.alloc b2.size _).mono hbw.size)⟩
      | some o =>
        have HN : Hid (opsOf ((ps.take (k + 1)).map (· ++ [10])) = some (os ++ [o])) := by
          show _ = _
          rw [take_at HP.out, List.map_append]
          exact opsOf_snoc _ _ _ _ HI.out hn
        rw [hn] at hrd
        unfold opRes at hrd
        simp only at hrd
        clear hn HI
        go_wp2_with (first | (go_at_call 26; refine hrd.mono ?_; rintro e w2 ⟨rfl, b2⟩; have hown1 := own_all hown b2; have hb1 := hb.trans (b2.mono hsz); have hsz1 := hb1.size; clear hrd hown) | (at_builtin; refine wpList_append_own _ rfl _ _ 22 rfl w1.heap.size 45 ii (.agg #[.int .i64 0, .int .i64 0, .int .i64 0]) 3 24 Tryz.underlying22 hi hz0 hz1 hz2 rfl (by decide) _ _ _ rfl ((hown1.alloc _).alloc _) ⟨w2.heap.size + 1, 0, none⟩ 1 1 [.int .i64 o.1, .int .i64 o.2.1, .int .i64 o.2.2] rfl rfl (three_new _ _ _ _ _ _) (by simp [Value.oneCell']) ?c3A ?c4A ?c5A ?_))
        case c3A => unfold maxLen; omega
        case c4A => omega
        case c5A => simp; omega
        intro v' w3 hown' hgrow _
        have hb2 : Below w1.heap.size w1 w3 := ((hb1.alloc hsz1 _).alloc (by simp; omega) _).grown hgrow (by simp; omega) (fun j hj => (hown1.lt j hj).1)
        have R2 : w3.ownsRow w1.heap.size 45 3 v' (os ++ [o]).length (cells3 (os ++ [o])) := by rw [cells3_snoc]; simpa using hown'
        clear hown' hgrow hown1
        go_wp2
        go_roundw
        case rel => exact ⟨k + 1, os ++ [o], by omega, by simp; omega, by go_num, R2, hb2, HN.out⟩
        case measure => simp [intOf]; omega
    · have hke : k = ps.length := by omega
      subst hke
      have HN : Hid (opsOf (linesB t.data.toList) = some os) := by
        have := HI.out
        rw [List.take_length] at this
        show _ = _
        rw [HL.out]
        exact this
      have hops := ops_of_own hown
      have hrc := refcode_any _ os wr hops
      obtain ⟨ao, capo, rfl⟩ := hops.form
      clear hown HI hgc hpl
      by_cases h0 : (chk os).2 = 0
      · have HP : Hid (R = (os, 0)) := by show _ = _; rw [HR.out]; exact parseB_ok HN.out h0
        have hrc' : Calls Tryz.prog 4 #[.slice ao os.length capo] wr fun e w' => (∃ i, e = .returned (.tuple #[.int .i64 i, .int .i64 0])) ∧ Ops w' (.slice ao os.length capo) os ∧ Below wr.heap.size wr w' := hrc.mono fun e w' h => ⟨⟨(chk os).1, by rw [h.1, h0]⟩, hops.all h.2, h.2⟩
        clear hrc h0 hops HN
        go_wp2_with (go_at_call 4; refine hrc'.mono ?_; rintro e w2 ⟨⟨i2, rfl⟩, hop2, b2⟩; clear hrc')
        go_ret2
        exact ⟨_, ret_code (by rw [HP.out]), by rw [HP.out]; exact hop2, hbw.trans (b2.mono hbw.size)⟩
      · have HP : Hid (R = ([], (chk os).2)) := by show _ = _; rw [HR.out]; exact parseB_err HN.out h0
        obtain ⟨E, hE⟩ : ∃ E, E = (chk os).2 := ⟨_, rfl⟩
        have HE : Hid (E = (chk os).2) := hE
        have hE0 : (E == 0) = false := by rw [hE]; simpa using h0
        have hrc' : Calls Tryz.prog 4 #[.slice ao os.length capo] wr fun e w' => (∃ i, e = .returned (.tuple #[.int .i64 i, .int .i64 E])) ∧ Below wr.heap.size wr w' := hrc.mono fun e w' h => ⟨⟨(chk os).1, by rw [h.1, hE]⟩, h.2⟩
        clear hrc h0 hops HN hE
        go_wp2_with (go_at_call 4; refine hrc'.mono ?_; rintro e w2 ⟨⟨i2, rfl⟩, b2⟩; clear hrc')
        go_ret2
        exact ⟨_, ret_code (by rw [HP.out]; exact HE.out.symm), by rw [HP.out]; exact Or.inl ⟨rfl, _, _, rfl⟩, hbw.trans (b2.mono hbw.size)⟩

theorem readcode_any (t : ByteArray) (w : World) (hs : t.size ≤ 1099511627776) :
    Calls Tryz.prog 12 #[.string t] w fun e w' => ∃ vv, e = .returned (.tuple #[vv, .int .i64 (parseB t.data.toList).2]) ∧ Ops w' vv (parseB t.data.toList).1 ∧ Below w.heap.size w w' := by
  obtain ⟨ps, q, hc, h1, h2⟩ := parse_cut t.data.toList
  by_cases hq : q = []
  · have hl := h2 hq
    subst hq
    exact readcode_shut t ps w hs hc hl
  · refine (readcode_open t ps q w hs hc hq).mono ?_
    rintro e w' ⟨rfl, hb⟩
    rw [h1 hq]
    exact ⟨_, rfl, Or.inl ⟨rfl, _, _, rfl⟩, hb⟩
end Go.Proofs.YtfneffmiignapaaGreatDoor
