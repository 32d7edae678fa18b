/-
  frameref1.Put, Ports: on which wires code does such.
-/
import Derived.Test.YtajfgmlockjmhaiGreatDoorJk1
namespace Go.Proofs.YtajfgmlockjmhaiGreatDoor
open Go.RowKit

set_option maxRecDepth 1000000 in
set_option maxHeartbeats 8000000 in
theorem put_any (v : Value) (zs : List Int) (n : Int) (w : World) (hv : Ints w v zs) (hl : zs.length ≤ 1000) :
    Calls Tryz.prog 90 #[v, .int .i64 n] w fun e w' => ∃ v', e = .returned v' ∧ Ints w' v' (putGo n false zs) ∧ Below w.heap.size w w' := by
  obtain ⟨ao, cap, rfl, hat⟩ := ints_form hv
  clear hv
  obtain ⟨ii, hi, hz0, hz1, hz2⟩ := info_parts infoIntC
  go_enter Tryz.func90, Tryz.ntmps90
  go_wp2
  go_loopw [5, 6, 7] (fun o d i wr => ∃ (k : Nat) (pre : List Int) (done : Bool), k ≤ zs.length ∧ pre.length ≤ k + 1 ∧ i = .int .i64 k ∧ d = .bool done ∧ wr.ownsRow w.heap.size 3 1 o pre.length (pre.map (Value.int .i64)) ∧ Below w.heap.size w wr ∧
      pre ++ putGo n done (zs.drop k) = putGo n false zs ∧ (done = false → pre.length ≤ k)) (fun _ _ i _ => zs.length - (intOf i).toNat)
  case atStart => exact ⟨0, [], false, Nat.zero_le _, by simp, rfl, rfl, World.ownsRow_nil _ _ _ _, Below.refl _ _, by simp, by simp⟩
  case round =>
    obtain ⟨k, pre, done, hk, hpl, rfl, rfl, hown, hb, hinv, hdl⟩ := hrel
    have HI : Hid (pre ++ putGo n done (zs.drop k) = putGo n false zs) := hinv
    clear hinv
    have hsz := hb.size
    by_cases hkl : k < zs.length
    · obtain ⟨z, hz⟩ : ∃ z, zs[k]? = some z := ⟨zs[k], List.getElem?_eq_getElem hkl⟩
      have HZ : Hid (zs.drop k = z :: zs.drop (k + 1)) := by
        have := List.drop_eq_getElem_cons hkl
        rw [List.getElem?_eq_getElem hkl] at hz
        rw [Option.some.inj hz] at this
        exact this
      obtain ⟨a, rfl, hab, hca⟩ : ∃ a, ao = some a ∧ a.block < w.heap.size ∧ ∀ (i : Nat) z, zs[i]? = some z → w.cell? (a.add i) = some (.int .i64 z) := by
        rcases hat with h | h
        · rw [h] at hkl; simp at hkl
        · exact h
      have c9 := hca k z hz
      have c0 := (hb.cell (p := a.add k) (by rw [add_block]; exact hab)).trans c9
      clear hz hat hca
      cases done with
      | true =>
        have HQ : Hid ((pre ++ [z]) ++ putGo n true (zs.drop (k + 1)) = putGo n false zs) := by
          show _ = _
          have := HI.out
          rw [HZ.out, putGo_true] at this
          rw [putGo_true]
          simpa using this
        clear HI HZ hdl
        by_cases hzn : z = n
        · have hq : (z == n) = true := by simpa using hzn
          clear hzn
          go_wp2_with (at_builtin; refine wpList_append_own _ rfl _ _ 58 rfl w.heap.size 3 ii (.int .i64 0) 1 8 Tryz.underlying58 hi hz0 hz1 hz2 rfl (by decide) _ _ _ rfl (hown.alloc _) ⟨wr.heap.size, 0, none⟩ 1 1 [.int .i64 z] rfl rfl ?c1A ?c2A ?c3A ?c4A ?c5A ?_)
          case c1A =>
            intro j u hj
            match j, hj with
            | 0, hj => simp at hj; subst hj; simp [Addr.add]
          case c2A => intro u hu; simp at hu; subst hu; rfl
          case c3A => unfold maxLen; (try simp only [List.length_append, List.length_cons, List.length_nil]); omega
          case c4A => (try simp only [List.length_append, List.length_cons, List.length_nil]); omega
          case c5A => simp; omega
          intro v1 w1 hown' hgrow _
          have hbA : Below w.heap.size w w1 := (hb.alloc hsz _).grown hgrow (by simp; omega) (fun j hj => (hown.lt j hj).1)
          have RA : w1.ownsRow w.heap.size 3 1 v1 (pre ++ [z]).length ((pre ++ [z]).map (Value.int .i64)) := by simpa using hown'
          clear hown' hgrow hown
          go_wp2
          go_roundw
          case rel => exact ⟨k + 1, pre ++ [z], true, by omega, by simp; omega, by go_num, rfl, RA, hbA, HQ.out, by simp⟩
          case measure => simp [intOf]; omega
        · have hq : (z == n) = false := by simpa using hzn
          clear hzn
          go_wp2_with (at_builtin; refine wpList_append_own _ rfl _ _ 58 rfl w.heap.size 3 ii (.int .i64 0) 1 8 Tryz.underlying58 hi hz0 hz1 hz2 rfl (by decide) _ _ _ rfl (hown.alloc _) ⟨wr.heap.size, 0, none⟩ 1 1 [.int .i64 z] rfl rfl ?c1B ?c2B ?c3B ?c4B ?c5B ?_)
          case c1B =>
            intro j u hj
            match j, hj with
            | 0, hj => simp at hj; subst hj; simp [Addr.add]
          case c2B => intro u hu; simp at hu; subst hu; rfl
          case c3B => unfold maxLen; (try simp only [List.length_append, List.length_cons, List.length_nil]); omega
          case c4B => (try simp only [List.length_append, List.length_cons, List.length_nil]); omega
          case c5B => simp; omega
          intro v1 w1 hown' hgrow _
          have hbB : Below w.heap.size w w1 := (hb.alloc hsz _).grown hgrow (by simp; omega) (fun j hj => (hown.lt j hj).1)
          have RB : w1.ownsRow w.heap.size 3 1 v1 (pre ++ [z]).length ((pre ++ [z]).map (Value.int .i64)) := by simpa using hown'
          clear hown' hgrow hown
          go_wp2
          go_roundw
          case rel => exact ⟨k + 1, pre ++ [z], true, by omega, by simp; omega, by go_num, rfl, RB, hbB, HQ.out, by simp⟩
          case measure => simp [intOf]; omega
      | false =>
        have hpl2 := hdl rfl
        clear hdl
        by_cases hzn : z = n
        · have HQ : Hid ((pre ++ [z]) ++ putGo n true (zs.drop (k + 1)) = putGo n false zs) := by
            show _ = _
            have := HI.out
            rw [HZ.out, putGo_eq hzn] at this
            rw [putGo_true]
            simpa using this
          have hq : (z == n) = true := by simpa using hzn
          clear hzn HI HZ
          go_wp2_with (at_builtin; refine wpList_append_own _ rfl _ _ 58 rfl w.heap.size 3 ii (.int .i64 0) 1 8 Tryz.underlying58 hi hz0 hz1 hz2 rfl (by decide) _ _ _ rfl (hown.alloc _) ⟨wr.heap.size, 0, none⟩ 1 1 [.int .i64 z] rfl rfl ?c1C ?c2C ?c3C ?c4C ?c5C ?_)
          case c1C =>
            intro j u hj
            match j, hj with
            | 0, hj => simp at hj; subst hj; simp [Addr.add]
          case c2C => intro u hu; simp at hu; subst hu; rfl
          case c3C => unfold maxLen; (try simp only [List.length_append, List.length_cons, List.length_nil]); omega
          case c4C => (try simp only [List.length_append, List.length_cons, List.length_nil]); omega
          case c5C => simp; omega
          intro v1 w1 hown' hgrow _
          have hbC : Below w.heap.size w w1 := (hb.alloc hsz _).grown hgrow (by simp; omega) (fun j hj => (hown.lt j hj).1)
          have RC : w1.ownsRow w.heap.size 3 1 v1 (pre ++ [z]).length ((pre ++ [z]).map (Value.int .i64)) := by simpa using hown'
          clear hown' hgrow hown
          go_wp2
          go_roundw
          case rel => exact ⟨k + 1, pre ++ [z], true, by omega, by simp; omega, by go_num, rfl, RC, hbC, HQ.out, by simp⟩
          case measure => simp [intOf]; omega
        · have hq : (z == n) = false := by simpa using hzn
          by_cases hlt : n < z
          · have HQ : Hid ((pre ++ [n] ++ [z]) ++ putGo n true (zs.drop (k + 1)) = putGo n false zs) := by
              show _ = _
              have := HI.out
              rw [HZ.out, putGo_lt hlt] at this
              rw [putGo_true]
              simpa using this
            clear hzn HI HZ
            have hd : decide (z > n) = true := by simpa using hlt
            go_wp2_with (at_builtin; refine wpList_append_own _ rfl _ _ 58 rfl w.heap.size 3 ii (.int .i64 0) 1 8 Tryz.underlying58 hi hz0 hz1 hz2 rfl (by decide) _ _ _ rfl (hown.alloc _) ⟨wr.heap.size, 0, none⟩ 1 1 [.int .i64 n] rfl rfl ?c1D ?c2D ?c3D ?c4D ?c5D ?_)
            case c1D =>
              intro j u hj
              match j, hj with
              | 0, hj => simp at hj; subst hj; simp [Addr.add]
            case c2D => intro u hu; simp at hu; subst hu; rfl
            case c3D => unfold maxLen; (try simp only [List.length_append, List.length_cons, List.length_nil]); omega
            case c4D => (try simp only [List.length_append, List.length_cons, List.length_nil]); omega
            case c5D => simp; omega
            intro v1 w1 hown' hgrow _
            have hbD : Below w.heap.size w w1 := (hb.alloc hsz _).grown hgrow (by simp; omega) (fun j hj => (hown.lt j hj).1)
            have RD : w1.ownsRow w.heap.size 3 1 v1 (pre ++ [n]).length ((pre ++ [n]).map (Value.int .i64)) := by simpa using hown'
            clear hown' hgrow hown
            have hszD := hbD.size
            have c1 := (hbD.cell (p := a.add k) (by rw [add_block]; exact hab)).trans c9
            go_wp2_with (at_builtin; refine wpList_append_own _ rfl _ _ 58 rfl w.heap.size 3 ii (.int .i64 0) 1 8 Tryz.underlying58 hi hz0 hz1 hz2 rfl (by decide) _ _ _ rfl (RD.alloc _) ⟨w1.heap.size, 0, none⟩ 1 1 [.int .i64 z] rfl rfl ?c1E ?c2E ?c3E ?c4E ?c5E ?_)
            case c1E =>
              intro j u hj
              match j, hj with
              | 0, hj => simp at hj; subst hj; simp [Addr.add]
            case c2E => intro u hu; simp at hu; subst hu; rfl
            case c3E => unfold maxLen; (try simp only [List.length_append, List.length_cons, List.length_nil]); omega
            case c4E => (try simp only [List.length_append, List.length_cons, List.length_nil]); omega
            case c5E => simp; omega
            intro v2 w2 hown' hgrow _
            have hbE : Below w.heap.size w w2 := (hbD.alloc hszD _).grown hgrow (by simp; omega) (fun j hj => (RD.lt j hj).1)
            have RE : w2.ownsRow w.heap.size 3 1 v2 ((pre ++ [n]) ++ [z]).length (((pre ++ [n]) ++ [z]).map (Value.int .i64)) := by simpa using hown'
            clear hown' hgrow RD
            go_wp2
            go_roundw
            case rel => exact ⟨k + 1, pre ++ [n] ++ [z], true, by omega, by simp; omega, by go_num, rfl, RE, hbE, HQ.out, by simp⟩
            case measure => simp [intOf]; omega
          · have hd : decide (z > n) = false := by simpa using hlt
            have HQ : Hid ((pre ++ [z]) ++ putGo n false (zs.drop (k + 1)) = putGo n false zs) := by
              show _ = _
              have := HI.out
              rw [HZ.out, putGo_gt (by omega)] at this
              simpa using this
            have hle : z ≤ n := by omega
            clear hzn HI HZ hlt
            go_wp2_with (at_builtin; refine wpList_append_own _ rfl _ _ 58 rfl w.heap.size 3 ii (.int .i64 0) 1 8 Tryz.underlying58 hi hz0 hz1 hz2 rfl (by decide) _ _ _ rfl (hown.alloc _) ⟨wr.heap.size, 0, none⟩ 1 1 [.int .i64 z] rfl rfl ?c1F ?c2F ?c3F ?c4F ?c5F ?_)
            case c1F =>
              intro j u hj
              match j, hj with
              | 0, hj => simp at hj; subst hj; simp [Addr.add]
            case c2F => intro u hu; simp at hu; subst hu; rfl
            case c3F => unfold maxLen; (try simp only [List.length_append, List.length_cons, List.length_nil]); omega
            case c4F => (try simp only [List.length_append, List.length_cons, List.length_nil]); omega
            case c5F => simp; omega
            intro v1 w1 hown' hgrow _
            have hbF : Below w.heap.size w w1 := (hb.alloc hsz _).grown hgrow (by simp; omega) (fun j hj => (hown.lt j hj).1)
            have RF : w1.ownsRow w.heap.size 3 1 v1 (pre ++ [z]).length ((pre ++ [z]).map (Value.int .i64)) := by simpa using hown'
            clear hown' hgrow hown
            go_wp2
            go_roundw
            case rel => exact ⟨k + 1, pre ++ [z], false, by omega, by simp; omega, by go_num, rfl, RF, hbF, HQ.out, fun _ => by simp; omega⟩
            case measure => simp [intOf]; omega
    · have hke : k = zs.length := by omega
      subst hke
      cases done with
      | true =>
        have HP : Hid (pre = putGo n false zs) := by have := HI.out; rw [putGo_true, List.drop_length, List.append_nil] at this; exact this
        have hv := ints_of_own hown
        obtain ⟨g, n', cap', rfl⟩ := slice_form hown
        clear hown hdl
        go_wp2
        go_ret
        exact ⟨_, rfl, by rw [← HP.out]; exact hv, hb⟩
      | false =>
        have HP : Hid (pre ++ [n] = putGo n false zs) := by have := HI.out; rw [List.drop_length, putGo_nil] at this; exact this
        have hpl2 := hdl rfl
        clear hdl
        go_wp2_with (at_builtin; refine wpList_append_own _ rfl _ _ 58 rfl w.heap.size 3 ii (.int .i64 0) 1 8 Tryz.underlying58 hi hz0 hz1 hz2 rfl (by decide) _ _ _ rfl (hown.alloc _) ⟨wr.heap.size, 0, none⟩ 1 1 [.int .i64 n] rfl rfl ?c1B ?c2B ?c3B ?c4B ?c5B ?_)
        case c1B =>
          intro j u hj
          match j, hj with
          | 0, hj => simp at hj; subst hj; simp [Addr.add]
        case c2B => intro u hu; simp at hu; subst hu; rfl
        case c3B => unfold maxLen; omega
        case c4B => omega
        case c5B => simp; omega
        intro v' w1 hown' hgrow _
        have hb1 : Below w.heap.size w w1 := (hb.alloc hsz _).grown hgrow (by simp; omega) (fun j hj => (hown.lt j hj).1)
        have R : w1.ownsRow w.heap.size 3 1 v' (pre ++ [n]).length ((pre ++ [n]).map (Value.int .i64)) := by simpa using hown'
        clear hown' hgrow hown
        have hv := ints_of_own R
        obtain ⟨g, n', cap', rfl⟩ := slice_form R
        clear R
        go_wp2
        go_ret
        exact ⟨_, rfl, by rw [← HP.out]; exact hv, hb1⟩

set_option maxRecDepth 1000000 in
set_option maxHeartbeats 8000000 in
theorem ports_some (what : Int) (l : List O3) (b off cap : Nat) (w : World) (hlt : b < w.heap.size) (hlen : l.length ≤ 1000) (hw : ∀ o ∈ l, o.1 = what → 0 ≤ o.2.2 ∧ o.2.2 < 12)
    (hc : ∀ (i : Nat) o, l[i]? = some o → w.cell? ⟨b, off + i * 3, none⟩ = some (.int .i64 o.1) ∧ w.cell? ⟨b, off + i * 3 + 1, none⟩ = some (.int .i64 o.2.1) ∧ w.cell? ⟨b, off + i * 3 + 2, none⟩ = some (.int .i64 o.2.2)) :
    Calls Tryz.prog 57 #[.slice (some ⟨b, off, none⟩) l.length cap, .int .i64 what] w fun e w' => ∃ v', e = .returned v' ∧ Ints w' v' (wiresB what l) ∧ Below w.heap.size w w' := by
  go_enter Tryz.func57, Tryz.ntmps57
  go_wp2
  go_loopw [5, 6] (fun o i wr => ∃ k : Nat, k ≤ l.length ∧ i = .int .i64 k ∧ Ints wr o (wiresB what (l.take k)) ∧ Below w.heap.size w wr) (fun _ i _ => l.length - (intOf i).toNat)
  case atStart => exact ⟨0, Nat.zero_le _, rfl, Or.inl ⟨rfl, by simp [wires_nil]⟩, Below.refl _ _⟩
  case round =>
    obtain ⟨k, hk, rfl, hint, hb⟩ := hrel
    have hwl := wires_len what (l.take k)
    obtain ⟨Z, hZ⟩ : ∃ Z, Z = wiresB what (l.take k) := ⟨_, rfl⟩
    rw [← hZ] at hint hwl
    have HZ : Hid (Z = wiresB what (l.take k)) := hZ
    clear hZ
    by_cases hkl : k < l.length
    · obtain ⟨o, ho⟩ : ∃ o, l[k]? = some o := ⟨l[k], List.getElem?_eq_getElem hkl⟩
      have hom := hw o (List.mem_of_getElem? ho)
      have HS : Hid (wiresB what (l.take (k + 1)) = portStep what Z o) := by
        show _ = _
        rw [HZ.out, ← wires_snoc what (l.take k) o hom]
        have := List.take_succ_eq_append_getElem hkl
        rw [List.getElem?_eq_getElem hkl] at ho
        rw [Option.some.inj ho] at this
        rw [this]
      obtain ⟨c0, c1, c2⟩ := hc k o ho
      clear ho hom
      have d0 : wr.cell? ⟨b, off + k * 3, none⟩ = some (.int .i64 o.1) := (hb.cell (p := ⟨b, _, none⟩) hlt).trans c0
      have d2 : wr.cell? ⟨b, off + k * 3 + 2, none⟩ = some (.int .i64 o.2.2) := (hb.cell (p := ⟨b, _, none⟩) hlt).trans c2
      clear c0 c1 c2
      by_cases hq : o.1 = what
      · have HP : Hid (wiresB what (l.take (k + 1)) = putGo o.2.2 false Z) := by
          show _ = _
          rw [HS.out, portStep, if_pos hq]
        have hqb : (o.1 == what) = true := by simpa using hq
        have hput := put_any _ Z o.2.2 wr hint (by omega)
        clear hq HS hint
        go_wp2_with (go_at_call 90; refine hput.mono ?_; rintro e w1 ⟨v1, rfl, hi1, b1⟩; clear hput)
        go_roundw
        case rel => exact ⟨k + 1, by omega, by go_num, by rw [HP.out]; exact hi1, hb.trans (b1.mono hb.size)⟩
        case measure => simp [intOf]; omega
      · have HP : Hid (wiresB what (l.take (k + 1)) = Z) := by
          show _ = _
          rw [HS.out, portStep, if_neg hq]
        have hqb : (o.1 == what) = false := by simpa using hq
        clear hq HS
        go_wp2
        go_roundw
        case rel => exact ⟨k + 1, by omega, by go_num, by rw [HP.out]; exact hint, hb⟩
        case measure => simp [intOf]; omega
    · have hke : k = l.length := by omega
      subst hke
      have HP : Hid (Z = wiresB what l) := by have := HZ.out; rwa [List.take_length] at this
      obtain ⟨ao, cc, rfl, _⟩ := ints_form hint
      go_wp2
      go_ret
      exact ⟨_, rfl, by rw [← HP.out]; exact hint, hb⟩
theorem ports_any (what : Int) (v : Value) (l : List O3) (w : World) (h : Ops w v l) (hk0 : (chk l).2 = 0) (hwh : what = 8 ∨ what = 9) :
    Calls Tryz.prog 57 #[v, .int .i64 what] w fun e w' => ∃ v', e = .returned v' ∧ Ints w' v' (wiresB what l) ∧ Below w.heap.size w w' := by
  rcases h with ⟨rfl, ao, cap, rfl⟩ | ⟨b, off, cap, rfl, hlt, hc⟩
  · exact absurd hk0 (by decide)
  · obtain ⟨hz0, hz1, hz2⟩ := chk_zero hk0
    refine ports_some what l b off cap w hlt (by omega) (fun o ho e => ?_) hc
    have := ok3_range (hz2 o ho)
    have hB : bB o.1 l.length = 12 := by rw [e]; rcases hwh with rfl | rfl <;> simp [bB]
    omega
end Go.Proofs.YtajfgmlockjmhaiGreatDoor
