/-
  RefPut, KRefPoke, RefFrame: joined into one text.
-/
import Derived.Test.YtkookoddhfdnpadGreatDoorJb2
import Derived.Deep.CutRange
import Derived.Deep.RegionWith
import Derived.BigQuiet
import Derived.RangeFuncNested
import Derived.Test.YtkookoddhfdnpadGreatDoorJb1
import Derived.Deep.QuietTactic
import Derived.WalkSmall
namespace Go.Proofs.YtkookoddhfdnpadGreatDoor
open Go.RowKit

/-- Any list's number, where it can be read. -/
def IntAt (w : World) (ao : Option Addr) (zs : List Int) : Prop := zs = [] ∨ ∃ a, ao = some a ∧ a.block < w.heap.size ∧ ∀ (i : Nat) z, zs[i]? = some z → w.cell? (a.add i) = some (.int .i64 z)
theorem ints_form {w : World} {v : Value} {zs : List Int} (h : Ints w v zs) : ∃ ao cap, v = .slice ao zs.length cap ∧ IntAt w ao zs := by
  rcases h with ⟨rfl, rfl⟩ | ⟨a, cap, rfl, ha, hc⟩
  · exact ⟨_, _, rfl, Or.inl rfl⟩
  · exact ⟨_, _, rfl, Or.inr ⟨a, rfl, ha, hc⟩⟩

set_option maxRecDepth 1000000 in
set_option maxHeartbeats 8000000 in
theorem put_any (v : Value) (zs : List Int) (n : Int) (w : World) (hv : Ints w v zs) (hl : zs.length ≤ 1000) :
    Calls Tryz.prog 33 #[v, .int .i64 n] w fun e w' => ∃ v', e = .returned v' ∧ Ints w' v' (putGo n false zs) ∧ Below w.heap.size w w' := by
  obtain ⟨ao, cap, rfl, hat⟩ := ints_form hv
  clear hv
  obtain ⟨ii, hi, hz0, hz1, hz2⟩ := info_parts infoIntC
  go_enter Tryz.func33, Tryz.ntmps33
  go_wp2
  go_loopw [5, 6, 7] (fun o d i wr => ∃ (k : Nat) (pre : List Int) (done : Bool), k ≤ zs.length ∧ pre.length ≤ k + 1 ∧ i = .int .i64 k ∧ d = .bool done ∧ wr.ownsRow w.heap.size 3 1 o pre.length (pre.map (Value.int .i64)) ∧ Below w.heap.size w wr ∧
      pre ++ putGo n done (zs.drop k) = putGo n false zs ∧ (done = false → pre.length ≤ k)) (fun _ _ i _ => zs.length - (intOf i).toNat)
  case atStart => exact ⟨0, [], false, Nat.zero_le _, by simp, rfl, rfl, World.ownsRow_nil _ _ _ _, Below.refl _ _, by simp, by simp⟩
  case round =>
    obtain ⟨k, pre, done, hk, hpl, rfl, rfl, hown, hb, hinv, hdl⟩ := hrel
    have HI : Hid (pre ++ putGo n done (zs.drop k) = putGo n false zs) := hinv
    clear hinv
    have hsz := hb.size
    by_cases hkl : k < zs.length
    · obtain ⟨z, hz⟩ : ∃ z, zs[k]? = some z := ⟨zs[k], List.getElem?_eq_getElem hkl⟩
      have HZ : Hid (zs.drop k = z :: zs.drop (k + 1)) := by
        have := List.drop_eq_getElem_cons hkl
        rw [List.getElem?_eq_getElem hkl] at hz
        rw [Option.some.inj hz] at this
        exact this
      obtain ⟨a, rfl, hab, hca⟩ : ∃ a, ao = some a ∧ a.block < w.heap.size ∧ ∀ (i : Nat) z, zs[i]? = some z → w.cell? (a.add i) = some (.int .i64 z) := by
        rcases hat with h | h
        · rw [h] at hkl; simp at hkl
        · exact h
      have c9 := hca k z hz
      have c0 := (hb.cell (p := a.add k) (by rw [add_block]; exact hab)).trans c9
      clear hz hat hca
      cases done with
      | true =>
        have HQ : Hid ((pre ++ [z]) ++ putGo n true (zs.drop (k + 1)) = putGo n false zs) := by
          show _ = _
          have := HI.out
          rw [HZ.out, putGo_true] at this
          rw [putGo_true]
          simpa using this
        clear HI HZ hdl
        by_cases hzn : z = n
        · have hq : (z == n) = true := by simpa using hzn
          clear hzn
          go_wp2_with (at_builtin; refine wpList_append_own _ rfl _ _ 38 rfl w.heap.size 3 ii (.int .i64 0) 1 8 Tryz.underlying38 hi hz0 hz1 hz2 rfl (by decide) _ _ _ rfl (hown.alloc _) ⟨wr.heap.size, 0, none⟩ 1 1 [.int .i64 z] rfl rfl ?c1A ?c2A ?c3A ?c4A ?c5A ?_)
          case c1A =>
            intro j u hj
            match j, hj with
            | 0, hj => simp at hj; subst hj; simp [Addr.add]
          case c2A => intro u hu; simp at hu; subst hu; rfl
          case c3A => unfold maxLen; (try simp only [List.length_append, List.length_cons, List.length_nil]); omega
          case c4A => (try simp only [List.length_append, List.length_cons, List.length_nil]); omega
          case c5A => simp; omega
          intro v1 w1 hown' hgrow _
          have hbA : Below w.heap.size w w1 := (hb.alloc hsz _).grown hgrow (by simp; omega) (fun j hj => (hown.lt j hj).1)
          have RA : w1.ownsRow w.heap.size 3 1 v1 (pre ++ [z]).length ((pre ++ [z]).map (Value.int .i64)) := by simpa using hown'
          clear hown' hgrow hown
          go_wp2
          go_roundw
          case rel => exact ⟨k + 1, pre ++ [z], true, by omega, by simp; omega, by go_num, rfl, RA, hbA, HQ.out, by simp⟩
          case measure => simp [intOf]; omega
        · have hq : (z == n) = false := by simpa using hzn
          clear hzn
          go_wp2_with (at_builtin; refine wpList_append_own _ rfl _ _ 38 rfl w.heap.size 3 ii (.int .i64 0) 1 8 Tryz.underlying38 hi hz0 hz1 hz2 rfl (by decide) _ _ _ rfl (hown.alloc _) ⟨wr.heap.size, 0, none⟩ 1 1 [.int .i64 z] rfl rfl ?c1B ?c2B ?c3B ?c4B ?c5B ?_)
          case c1B =>
            intro j u hj
            match j, hj with
            | 0, hj => simp at hj; subst hj; simp [Addr.add]
          case c2B => intro u hu; simp at hu; subst hu; rfl
          case c3B => unfold maxLen; (try simp only [List.length_append, List.length_cons, List.length_nil]); omega
          case c4B => (try simp only [List.length_append, List.length_cons, List.length_nil]); omega
          case c5B => simp; omega
          intro v1 w1 hown' hgrow _
          have hbB : Below w.heap.size w w1 := (hb.alloc hsz _).grown hgrow (by simp; omega) (fun j hj => (hown.lt j hj).1)
          have RB : w1.ownsRow w.heap.size 3 1 v1 (pre ++ [z]).length ((pre ++ [z]).map (Value.int .i64)) := by simpa using hown'
          clear hown' hgrow hown
          go_wp2
          go_roundw
          case rel => exact ⟨k + 1, pre ++ [z], true, by omega, by simp; omega, by go_num, rfl, RB, hbB, HQ.out, by simp⟩
          case measure => simp [intOf]; omega
      | false =>
        have hpl2 := hdl rfl
        clear hdl
        by_cases hzn : z = n
        · have HQ : Hid ((pre ++ [z]) ++ putGo n true (zs.drop (k + 1)) = putGo n false zs) := by
            show _ = _
            have := HI.out
            rw [HZ.out, putGo_eq hzn] at this
            rw [putGo_true]
            simpa using this
          have hq : (z == n) = true := by simpa using hzn
          clear hzn HI HZ
          go_wp2_with (at_builtin; refine wpList_append_own _ rfl _ _ 38 rfl w.heap.size 3 ii (.int .i64 0) 1 8 Tryz.underlying38 hi hz0 hz1 hz2 rfl (by decide) _ _ _ rfl (hown.alloc _) ⟨wr.heap.size, 0, none⟩ 1 1 [.int .i64 z] rfl rfl ?c1C ?c2C ?c3C ?c4C ?c5C ?_)
          case c1C =>
            intro j u hj
            match j, hj with
            | 0, hj => simp at hj; subst hj; simp [Addr.add]
          case c2C => intro u hu; simp at hu; subst hu; rfl
          case c3C => unfold maxLen; (try simp only [List.length_append, List.length_cons, List.length_nil]); omega
          case c4C => (try simp only [List.length_append, List.length_cons, List.length_nil]); omega
          case c5C => simp; omega
          intro v1 w1 hown' hgrow _
          have hbC : Below w.heap.size w w1 := (hb.alloc hsz _).grown hgrow (by simp; omega) (fun j hj => (hown.lt j hj).1)
          have RC : w1.ownsRow w.heap.size 3 1 v1 (pre ++ [z]).length ((pre ++ [z]).map (Value.int .i64)) := by simpa using hown'
          clear hown' hgrow hown
          go_wp2
          go_roundw
          case rel => exact ⟨k + 1, pre ++ [z], true, by omega, by simp; omega, by go_num, rfl, RC, hbC, HQ.out, by simp⟩
          case measure => simp [intOf]; omega
        · have hq : (z == n) = false := by simpa using hzn
          by_cases hlt : n < z
          · have HQ : Hid ((pre ++ [n] ++ [z]) ++ putGo n true (zs.drop (k + 1)) = putGo n false zs) := by
              show _ = _
              have := HI.out
              rw [HZ.out, putGo_lt hlt] at this
              rw [putGo_true]
              simpa using this
            clear hzn HI HZ
            have hd : decide (z > n) = true := by simpa using hlt
            go_wp2_with (at_builtin; refine wpList_append_own _ rfl _ _ 38 rfl w.heap.size 3 ii (.int .i64 0) 1 8 Tryz.underlying38 hi hz0 hz1 hz2 rfl (by decide) _ _ _ rfl (hown.alloc _) ⟨wr.heap.size, 0, none⟩ 1 1 [.int .i64 n] rfl rfl ?c1D ?c2D ?c3D ?c4D ?c5D ?_)
            case c1D =>
              intro j u hj
              match j, hj with
              | 0, hj => simp at hj; subst hj; simp [Addr.add]
            case c2D => intro u hu; simp at hu; subst hu; rfl
            case c3D => unfold maxLen; (try simp only [List.length_append, List.length_cons, List.length_nil]); omega
            case c4D => (try simp only [List.length_append, List.length_cons, List.length_nil]); omega
            case c5D => simp; omega
            intro v1 w1 hown' hgrow _
            have hbD : Below w.heap.size w w1 := (hb.alloc hsz _).grown hgrow (by simp; omega) (fun j hj => (hown.lt j hj).1)
            have RD : w1.ownsRow w.heap.size 3 1 v1 (pre ++ [n]).length ((pre ++ [n]).map (Value.int .i64)) := by simpa using hown'
            clear hown' hgrow hown
            have hszD := hbD.size
            have c1 := (hbD.cell (p := a.add k) (by rw [add_block]; exact hab)).trans c9
            go_wp2_with (at_builtin; refine wpList_append_own _ rfl _ _ 38 rfl w.heap.size 3 ii (.int .i64 0) 1 8 Tryz.underlying38 hi hz0 hz1 hz2 rfl (by decide) _ _ _ rfl (RD.alloc _) ⟨w1.heap.size, 0, none⟩ 1 1 [.int .i64 z] rfl rfl ?c1E ?c2E ?c3E ?c4E ?c5E ?_)
            case c1E =>
              intro j u hj
              match j, hj with
              | 0, hj => simp at hj; subst hj; simp [Addr.add]
            case c2E => intro u hu; simp at hu; subst hu; rfl
            case c3E => unfold maxLen; (try simp only [List.length_append, List.length_cons, List.length_nil]); omega
            case c4E => (try simp only [List.length_append, List.length_cons, List.length_nil]); omega
            case c5E => simp; omega
            intro v2 w2 hown' hgrow _
            have hbE : Below w.heap.size w w2 := (hbD.alloc hszD _).grown hgrow (by simp; omega) (fun j hj => (RD.lt j hj).1)
            have RE : w2.ownsRow w.heap.size 3 1 v2 ((pre ++ [n]) ++ [z]).length (((pre ++ [n]) ++ [z]).map (Value.int .i64)) := by simpa using hown'
            clear hown' hgrow RD
            go_wp2
            go_roundw
            case rel => exact ⟨k + 1, pre ++ [n] ++ [z], true, by omega, by simp; omega, by go_num, rfl, RE, hbE, HQ.out, by simp⟩
            case measure => simp [intOf]; omega
          · have hd : decide (z > n) = false := by simpa using hlt
            have HQ : Hid ((pre ++ [z]) ++ putGo n false (zs.drop (k + 1)) = putGo n false zs) := by
              show _ = _
              have := HI.out
              rw [HZ.out, putGo_gt (by omega)] at this
              simpa using this
            have hle : z ≤ n := by omega
            clear hzn HI HZ hlt
            go_wp2_with (at_builtin; refine wpList_append_own _ rfl _ _ 38 rfl w.heap.size 3 ii (.int .i64 0) 1 8 Tryz.underlying38 hi hz0 hz1 hz2 rfl (by decide) _ _ _ rfl (hown.alloc _) ⟨wr.heap.size, 0, none⟩ 1 1 [.int .i64 z] rfl rfl ?c1F ?c2F ?c3F ?c4F ?c5F ?_)
            case c1F =>
              intro j u hj
              match j, hj with
              | 0, hj => simp at hj; subst hj; simp [Addr.add]
            case c2F => intro u hu; simp at hu; subst hu; rfl
            case c3F => unfold maxLen; (try simp only [List.length_append, List.length_cons, List.length_nil]); omega
            case c4F => (try simp only [List.length_append, List.length_cons, List.length_nil]); omega
            case c5F => simp; omega
            intro v1 w1 hown' hgrow _
            have hbF : Below w.heap.size w w1 := (hb.alloc hsz _).grown hgrow (by simp; omega) (fun j hj => (hown.lt j hj).1)
            have RF : w1.ownsRow w.heap.size 3 1 v1 (pre ++ [z]).length ((pre ++ [z]).map (Value.int .i64)) := by simpa using hown'
            clear hown' hgrow hown
            go_wp2
            go_roundw
            case rel => exact ⟨k + 1, pre ++ [z], false, by omega, by simp; omega, by go_num, rfl, RF, hbF, HQ.out, fun _ => by simp; omega⟩
            case measure => simp [intOf]; omega
    · have hke : k = zs.length := by omega
      subst hke
      cases done with
      | true =>
        have HP : Hid (pre = putGo n false zs) := by have := HI.out; rw [putGo_true, List.drop_length, List.append_nil] at this; exact this
        have hv := ints_of_own hown
        obtain ⟨g, n', cap', rfl⟩ := slice_form hown
        clear hown hdl
        go_wp2
        go_ret
        exact ⟨_, rfl, by rw [← HP.out]; exact hv, hb⟩
      | false =>
        have HP : Hid (pre ++ [n] = putGo n false zs) := by have := HI.out; rw [List.drop_length, putGo_nil] at this; exact this
        have hpl2 := hdl rfl
        clear hdl
        go_wp2_with (at_builtin; refine wpList_append_own _ rfl _ _ 38 rfl w.heap.size 3 ii (.int .i64 0) 1 8 Tryz.underlying38 hi hz0 hz1 hz2 rfl (by decide) _ _ _ rfl (hown.alloc _) ⟨wr.heap.size, 0, none⟩ 1 1 [.int .i64 n] rfl rfl ?c1B ?c2B ?c3B ?c4B ?c5B ?_)
        case c1B =>
          intro j u hj
          match j, hj with
          | 0, hj => simp at hj; subst hj; simp [Addr.add]
        case c2B => intro u hu; simp at hu; subst hu; rfl
        case c3B => unfold maxLen; omega
        case c4B => omega
        case c5B => simp; omega
        intro v' w1 hown' hgrow _
        have hb1 : Below w.heap.size w w1 := (hb.alloc hsz _).grown hgrow (by simp; omega) (fun j hj => (hown.lt j hj).1)
        have R : w1.ownsRow w.heap.size 3 1 v' (pre ++ [n]).length ((pre ++ [n]).map (Value.int .i64)) := by simpa using hown'
        clear hown' hgrow hown
        have hv := ints_of_own R
        obtain ⟨g, n', cap', rfl⟩ := slice_form R
        clear R
        go_wp2
        go_ret
        exact ⟨_, rfl, by rw [← HP.out]; exact hv, hb1⟩

set_option maxRecDepth 1000000 in
set_option maxHeartbeats 8000000 in
theorem ports_some (what : Int) (l : List O3) (b off cap : Nat) (w : World) (hlt : b < w.heap.size) (hlen : l.length ≤ 1000) (hw : ∀ o ∈ l, o.1 = what → 0 ≤ o.2.2 ∧ o.2.2 < 12)
    (hc : ∀ (i : Nat) o, l[i]? = some o → w.cell? ⟨b, off + i * 3, none⟩ = some (.int .i64 o.1) ∧ w.cell? ⟨b, off + i * 3 + 1, none⟩ = some (.int .i64 o.2.1) ∧ w.cell? ⟨b, off + i * 3 + 2, none⟩ = some (.int .i64 o.2.2)) :
    Calls Tryz.prog 19 #[.slice (some ⟨b, off, none⟩) l.length cap, .int .i64 what] w fun e w' => ∃ v', e = .returned v' ∧ Ints w' v' (wiresB what l) ∧ Below w.heap.size w w' := by
  go_enter Tryz.func19, Tryz.ntmps19
  go_wp2
  go_loopw [5, 6] (fun o i wr => ∃ k : Nat, k ≤ l.length ∧ i = .int .i64 k ∧ Ints wr o (wiresB what (l.take k)) ∧ Below w.heap.size w wr) (fun _ i _ => l.length - (intOf i).toNat)
  case atStart => exact ⟨0, Nat.zero_le _, rfl, Or.inl ⟨rfl, by simp [wires_nil]⟩, Below.refl _ _⟩
  case round =>
    obtain ⟨k, hk, rfl, hint, hb⟩ := hrel
    have hwl := wires_len what (l.take k)
    obtain ⟨Z, hZ⟩ : ∃ Z, Z = wiresB what (l.take k) := ⟨_, rfl⟩
    rw [← hZ] at hint hwl
    have HZ : Hid (Z = wiresB what (l.take k)) := hZ
    clear hZ
    by_cases hkl : k < l.length
    · obtain ⟨o, ho⟩ : ∃ o, l[k]? = some o := ⟨l[k], List.getElem?_eq_getElem hkl⟩
      have hom := hw o (List.mem_of_getElem? ho)
      have HS : Hid (wiresB what (l.take (k + 1)) = portStep what Z o) := by
        show _ = _
        rw [HZ.out, ← wires_snoc what (l.take k) o hom]
        have := List.take_succ_eq_append_getElem hkl
        rw [List.getElem?_eq_getElem hkl] at ho
        rw [Option.some.inj ho] at this
        rw [this]
      obtain ⟨c0, c1, c2⟩ := hc k o ho
      clear ho hom
      have d0 : wr.cell? ⟨b, off + k * 3, none⟩ = some (.int .i64 o.1) := (hb.cell (p := ⟨b, _, none⟩) hlt).trans c0
      have d2 : wr.cell? ⟨b, off + k * 3 + 2, none⟩ = some (.int .i64 o.2.2) := (hb.cell (p := ⟨b, _, none⟩) hlt).trans c2
      clear c0 c1 c2
      by_cases hq : o.1 = what
      · have HP : Hid (wiresB what (l.take (k + 1)) = putGo o.2.2 false Z) := by
          show _ = _
          rw [HS.out, portStep, if_pos hq]
        have hqb : (o.1 == what) = true := by simpa using hq
        have hput := put_any _ Z o.2.2 wr hint (by omega)
        clear hq HS hint
        go_wp2_with (go_at_call 33; refine hput.mono ?_; rintro e w1 ⟨v1, rfl, hi1, b1⟩; clear hput)
        go_roundw
        case rel => exact ⟨k + 1, by omega, by go_num, by rw [HP.out]; exact hi1, hb.trans (b1.mono hb.size)⟩
        case measure => simp [intOf]; omega
      · have HP : Hid (wiresB what (l.take (k + 1)) = Z) := by
          show _ = _
          rw [HS.out, portStep, if_neg hq]
        have hqb : (o.1 == what) = false := by simpa using hq
        clear hq HS
        go_wp2
        go_roundw
        case rel => exact ⟨k + 1, by omega, by go_num, by rw [HP.out]; exact hint, hb⟩
        case measure => simp [intOf]; omega
    · have hke : k = l.length := by omega
      subst hke
      have HP : Hid (Z = wiresB what l) := by have := HZ.out; rwa [List.take_length] at this
      obtain ⟨ao, cc, rfl, _⟩ := ints_form hint
      go_wp2
      go_ret
      exact ⟨_, rfl, by rw [← HP.out]; exact hint, hb⟩
theorem ports_any (what : Int) (v : Value) (l : List O3) (w : World) (h : Ops w v l) (hk0 : (chk l).2 = 0) (hwh : what = 8 ∨ what = 9) :
    Calls Tryz.prog 19 #[v, .int .i64 what] w fun e w' => ∃ v', e = .returned v' ∧ Ints w' v' (wiresB what l) ∧ Below w.heap.size w w' := by
  rcases h with ⟨rfl, ao, cap, rfl⟩ | ⟨b, off, cap, rfl, hlt, hc⟩
  · exact absurd hk0 (by decide)
  · obtain ⟨hz0, hz1, hz2⟩ := chk_zero hk0
    refine ports_some what l b off cap w hlt (by omega) (fun o ho e => ?_) hc
    have := ok3_range (hz2 o ho)
    have hB : bB o.1 l.length = 12 := by rw [e]; rcases hwh with rfl | rfl <;> simp [bB]
    omega
end Go.Proofs.YtkookoddhfdnpadGreatDoor
namespace Go.Proofs.YtkookoddhfdnpadGreatDoor
open Go.RowKit

/-- A room is another one, the others as they were: what is written lies within its eight cells. -/
theorem RK.room_at {w w' : World} {base : Nat} {p : PD} {vc vs vw : Value} {k : KD} {a : KW} (h : RK w base p vc vs vw k a) {r : Nat} {s s' : St} (hr : k.rooms[r]? = some s) (ht : KTouch [a.rb] w w') (hat : StC w' a.rb (r * 8) s') (hoff : ∀ i, i < r * 8 ∨ r * 8 + 8 ≤ i → w'.cell? ⟨a.rb, i, none⟩ = w.cell? ⟨a.rb, i, none⟩) (hfz : ∀ i, w'.frozen? ⟨a.rb, i, none⟩ = w.frozen? ⟨a.rb, i, none⟩) : RK w' base p vc vs vw ⟨k.rooms.set r s', k.lines, k.time⟩ a := by
  have hlen := (List.getElem?_eq_some_iff.1 hr).1
  have hk : ∀ j, j < a.b1 → j ≠ a.rb → w'.heap[j]? = w.heap[j]? := fun j hj hn => ht.block j (Nat.lt_of_lt_of_le hj h.le) (by simpa using hn)
  have hc := fun o => World.cell?_of_block (w := w) (w' := w') (a := ⟨a.kb, o, none⟩) (hk _ h.lt.1 h.apart.1)
  have hf := fun o => World.frozen?_of_block (w := w) (w' := w') (a := ⟨a.kb, o, none⟩) (hk _ h.lt.1 h.apart.1)
  refine ⟨(hc 0).trans h.c0, (hc 1).trans h.c1, (hc 2).trans h.c2, (hc 3).trans h.c3, by simp only [List.length_set]; exact (hc 4).trans h.c4, (hc 5).trans h.c5, (hc 6).trans h.c6, (hf 6).trans h.f6, fun j s2 hs => ?_, fun o => (hfz o).trans (h.rf o), h.lv, fun j b' hj => ?_, h.bl, h.ul, fun j l b' u2 h1 h2 h3 => ?_, h.ge, h.lt, Nat.le_trans h.le ht.size, h.apart, h.two⟩
  · simp only at hs
    by_cases hij : r = j
    · subst hij
      rw [List.getElem?_set_self hlen] at hs
      obtain rfl := Option.some.inj hs
      exact hat
    · rw [List.getElem?_set_ne hij] at hs
      exact (h.rooms j s2 hs).off (fun i h1 h2 => hoff i (by omega))
  · rcases h.apart.2.2.1 with h1 | h1
    · exact (World.cell?_of_block (w := w) (a := ⟨a.lr, j, none⟩) (hk _ h.lt.2.2.1 h1)).trans (h.ptr j b' hj)
    · have h2 := h.bl
      rw [h1, List.length_nil] at h2
      have := (List.getElem?_eq_some_iff.1 hj).1
      omega
  · have hm := h.apart.2.2.2 b' (List.mem_of_getElem? h2)
    exact (h.line j l b' u2 h1 h2 h3).other ht (by simpa using hm.2.1) (by simpa using h.lt.2.1)
theorem RK.poke {w : World} {base : Nat} {p : PD} {vc vs vw : Value} {k : KD} {a : KW} (h : RK w base p vc vs vw k a) {r c : Nat} {s : St} (hr : k.rooms[r]? = some s) (hc : c ≤ 5) (n : Int) : RK (w.setCell ⟨a.rb, r * 8 + 1 + c, none⟩ (.int .i64 n)) base p vc vs vw ⟨k.rooms.set r (pokeS s c n), k.lines, k.time⟩ a :=
  h.room_at hr (KTouch.set w (by simp) _ _) ((h.rooms r s hr).poke hc n) (fun i hi => setCell_far (by omega)) (fun i => by simp)
set_option maxRecDepth 100000 in
set_option maxHeartbeats 4000000 in
theorem refpoke_any (p : PD) (vc vs vw : Value) (k : KD) (a : KW) (base : Nat) (r c n : Int) (w : World) (h : RK w base p vc vs vw k a) :
    Calls Tryz.prog 8 #[.pointer (some ⟨a.kb, 0, none⟩), .int .i64 r, .int .i64 c, .int .i64 n] w fun e w' => e = .returned (.int .i64 (pokeN k r c n)) ∧ RK w' base p vc vs vw (pokeK k r c n) a ∧ KTouch a.m w w' := by
  have k4 := h.c4
  have H : Hid (RK w base p vc vs vw k a) := h
  clear h
  go_enter Tryz.func8, Tryz.ntmps8
  go_upto_region 1 with fail
  go_cut [35] from 9 to 34 (fun s35 wx => s35 = .bool (pokeB k r c n) ∧ wx = w)
  case first =>
    by_cases h0 : r < 0
    · have HX : Hid (pokeB k r c n = true) := by show _ = _; unfold pokeB; simp [h0]
      go_wp2_with fail
      go_meet
      case rel => exact ⟨by rw [HX.out], rfl⟩
    have h0' : decide (r < 0) = false := decide_eq_false h0
    by_cases h1 : (k.rooms.length : Int) ≤ r
    · have HX : Hid (pokeB k r c n = true) := by show _ = _; unfold pokeB; simp [h1]
      go_wp2_with fail
      go_meet
      case rel => exact ⟨by rw [HX.out], rfl⟩
    have h1' : decide ((k.rooms.length : Int) ≤ r) = false := decide_eq_false h1
    by_cases h2 : c < 0
    · have HX : Hid (pokeB k r c n = true) := by show _ = _; unfold pokeB; simp [h2]
      go_wp2_with fail
      go_meet
      case rel => exact ⟨by rw [HX.out], rfl⟩
    have h2' : decide (c < 0) = false := decide_eq_false h2
    by_cases h3 : 5 < c
    · have HX : Hid (pokeB k r c n = true) := by show _ = _; unfold pokeB; simp [h3]
      go_wp2_with fail
      go_meet
      case rel => exact ⟨by rw [HX.out], rfl⟩
    have h3' : decide (5 < c) = false := decide_eq_false h3
    by_cases h4 : n < 0
    · have HX : Hid (pokeB k r c n = true) := by show _ = _; unfold pokeB; simp [h4]
      go_wp2_with fail
      go_meet
      case rel => exact ⟨by rw [HX.out], rfl⟩
    have h4' : decide (n < 0) = false := decide_eq_false h4
    have HX : Hid (pokeB k r c n = decide (999 < n)) := by show _ = _; unfold pokeB; simp [h0', h1', h2', h3', h4']
    go_wp2_with fail
    go_meet
    case rel => exact ⟨by rw [HX.out], rfl⟩
  case rest =>
  obtain ⟨rfl, hwc⟩ := hcut
  rw [hwc]
  clear hwc
  cases hb : pokeB k r c n with
  | true =>
    go_wp2
    go_ret
    exact ⟨by unfold pokeN; rw [hb]; rfl, by unfold pokeK; rw [hb, if_pos rfl]; exact H.out, KTouch.refl _ _⟩
  | false =>
    obtain ⟨h0, h1, h2, h3, h4, h5⟩ := pokeB_false hb
    obtain ⟨rn, rfl⟩ : ∃ m : Nat, r = m := ⟨r.toNat, by omega⟩
    obtain ⟨cn, rfl⟩ : ∃ m : Nat, c = m := ⟨c.toNat, by omega⟩
    have hrl : rn < k.rooms.length := by omega
    have hcl : cn ≤ 5 := by omega
    have hc6 : (cn : Int) < 6 := by omega
    have hs : k.rooms[rn]? = some k.rooms[rn] := List.getElem?_eq_getElem hrl
    have hst := H.out.rooms rn _ hs
    have hcell : ∃ v, w.cell? ⟨a.rb, rn * 8 + 1 + cn, none⟩ = some v := by
      obtain ⟨q0, q1, q2, q3, q4, q5, q6, q7⟩ := hst
      match cn, hcl with
      | 0, _ => exact ⟨_, q1⟩
      | 1, _ => exact ⟨_, q2⟩
      | 2, _ => exact ⟨_, q3⟩
      | 3, _ => exact ⟨_, q4⟩
      | 4, _ => exact ⟨_, q5⟩
      | 5, _ => exact ⟨_, q6⟩
    obtain ⟨v0, hv0⟩ := hcell
    have hfz := H.out.rf (rn * 8 + 1 + cn)
    have HK : Hid (pokeK k rn cn n = ⟨k.rooms.set rn (pokeS k.rooms[rn] cn n), k.lines, k.time⟩) := by
      show _ = _
      unfold pokeK
      rw [hb, if_neg (by decide)]
      simp [List.getD, hs]
    clear hst hs
    have HB : Hid (pokeB k rn cn n = false) := hb
    clear hb
    go_wp2
    go_ret
    refine ⟨by unfold pokeN; rw [HB.out]; rfl, ?_, KTouch.set w (by simp [KW.m]) _ _⟩
    rw [HK.out]
    exact H.out.poke (List.getElem?_eq_getElem hrl) hcl n
end Go.Proofs.YtkookoddhfdnpadGreatDoor
namespace Go.Proofs.YtkookoddhfdnpadGreatDoor
open Go.RowKit

set_option maxRecDepth 1000000 in
set_option maxHeartbeats 4000000 in
theorem refwho_some (n : Int) (l : List S3) (b off cap : Nat) (t : Int) (w : World) (hn0 : 1 ≤ n) (hn1 : n ≤ 40) (ht : 0 ≤ t) (hlen : l.length ≤ 12) (hlt : b < w.heap.size) (hc : SpC w b off l) :
    Calls Tryz.prog 45 #[.int .i64 n, .slice (some ⟨b, off, none⟩) l.length cap, .int .i64 t] w fun e w' => e = .returned (.int .i64 (hold l (t % n))) ∧ Below w.heap.size w w' := by
  have hn' : ¬ n = 0 := by omega
  go_enter Tryz.func45, Tryz.ntmps45
  go_wp2
  go_loopw [7] (fun i wr => ∃ k : Nat, k ≤ l.length ∧ i = .int .i64 k ∧ Hid (hold l (t % n) = hold (l.drop k) (t % n)) ∧ Below w.heap.size w wr) (fun i _ => l.length - (intOf i).toNat)
  case atStart => exact ⟨0, Nat.zero_le _, rfl, by show _ = _; simp, Below.refl _ _⟩
  case round =>
    obtain ⟨k, hk, rfl, HS, hb⟩ := hrel
    by_cases hkl : k < l.length
    · obtain ⟨o, ho⟩ : ∃ o, l[k]? = some o := ⟨l[k], List.getElem?_eq_getElem hkl⟩
      have HD : Hid (hold l (t % n) = if hits (t % n) o = true then o.2.2 else hold (l.drop (k + 1)) (t % n)) := HS.out.trans (hold_drop ho)
      obtain ⟨c0, c1, c2⟩ := hc.below hb hlt k o ho
      clear ho HS
      have hki : (k : Int) < (l.length : Int) := by omega
      by_cases h1 : o.1 ≤ t % n
      · by_cases h2 : t % n < o.2.1
        · have HF : Hid (hold l (t % n) = o.2.2) := by show _ = _; rw [HD.out, if_pos (by simp [hits, h1, h2])]
          have h1' : decide (o.1 ≤ t % n) = true := by simpa using h1
          have h2' : decide (t % n < o.2.1) = true := by simpa using h2
          clear HD
          go_wp2
          go_quiet (fail)
          go_wp2
          go_ret
          exact ⟨retI HF.out.symm, below_drewN hb _⟩
        · have HF : Hid (hold l (t % n) = hold (l.drop (k + 1)) (t % n)) := by show _ = _; rw [HD.out, if_neg (by simp [hits, h2])]
          have h1' : decide (o.1 ≤ t % n) = true := by simpa using h1
          have h2' : decide (t % n < o.2.1) = false := by simpa using h2
          clear HD
          go_wp2
          go_quiet (fail)
          go_wp2
          go_roundw
          case rel => exact ⟨k + 1, by omega, by go_num, HF.out, below_drewN hb _⟩
          case measure => simp [intOf]; omega
      · have HF : Hid (hold l (t % n) = hold (l.drop (k + 1)) (t % n)) := by show _ = _; rw [HD.out, if_neg (by simp [hits, h1])]
        have h1' : decide (o.1 ≤ t % n) = false := by simpa using h1
        clear HD
        go_wp2
        go_quiet (fail)
        go_wp2
        go_roundw
        case rel => exact ⟨k + 1, by omega, by go_num, HF.out, below_drewN hb _⟩
        case measure => simp [intOf]; omega
    · obtain rfl : k = l.length := by omega
      have HF : Hid (hold l (t % n) = -1) := by show _ = _; rw [HS.out, List.drop_length]; rfl
      clear HS
      go_wp2
      go_ret
      exact ⟨retI HF.out.symm, hb⟩
set_option maxRecDepth 100000 in
set_option maxHeartbeats 2000000 in
theorem refwho_nil (n : Int) (ao : Option Addr) (cap : Nat) (t : Int) (w : World) :
    Calls Tryz.prog 45 #[.int .i64 n, .slice ao 0 cap, .int .i64 t] w fun e w' => e = .returned (.int .i64 (-1)) ∧ Below w.heap.size w w' := by
  go_enter Tryz.func45, Tryz.ntmps45
  go_wp2
  refine wp_loop_rounds 1 ?_
  rw [rounds_succ]
  go_wp2
  go_ret
  exact ⟨rfl, Below.refl _ _⟩
theorem refwho_any (n : Int) (l : List S3) (v : Value) (t : Int) (w : World) (hl : Sps w v l) (hn0 : 1 ≤ n) (hn1 : n ≤ 40) (ht : 0 ≤ t) (hlen : l.length ≤ 12) :
    Calls Tryz.prog 45 #[.int .i64 n, v, .int .i64 t] w fun e w' => e = .returned (.int .i64 (hold l (t % n))) ∧ Below w.heap.size w w' := by
  rcases hl with ⟨rfl, ao, cap, rfl⟩ | ⟨b, off, cap, rfl, _, hlt, hc⟩
  · exact refwho_nil n ao cap t w
  · exact refwho_some n l b off cap t w hn0 hn1 ht hlen hlt hc
end Go.Proofs.YtkookoddhfdnpadGreatDoor
